/- Functions told of by what they read and what they hand out: arguments of structs; the result brought into any state. By an AI agent. -/
import Derived.Test.YtcofcojjofkgcaaHk
namespace Go.Proofs.Ytcofcojjofkgcaa.Abs
open Go Go.RowKit Go.Proofs.Ytcofcojjofkgcaa.M
set_option linter.unusedVariables false
theorem atomsOk_length : ∀ {ds : List BD} {as : List Atom}, atomsOk ds as → as.length = ds.length
  | [], [], _ => rfl
  | d :: ds, a :: as, h => by simp [atomsOk_length h.2]
  | [], _ :: _, h => h.elim
  | _ :: _, [], h => h.elim
theorem atomsOk_append : ∀ {ds : List BD} {as : List Atom} {es : List BD} {bs : List Atom}, atomsOk ds as → atomsOk es bs → atomsOk (ds ++ es) (as ++ bs)
  | [], [], _, _, _, k => k
  | d :: ds, a :: as, _, _, h, k => ⟨h.1, atomsOk_append h.2 k⟩
  | [], _ :: _, _, _, h, _ => h.elim
  | _ :: _, [], _, _, h, _ => h.elim
theorem smallBs_append {caps : Nat → Nat} : ∀ {ds : List BD} {as bs : List Atom} {i : Nat}, as.length = ds.length → smallBs caps i ds (as ++ bs) = smallBs caps i ds as
  | [], as, bs, i, h => by cases as <;> simp [smallBs] at h ⊢
  | d :: ds, [], bs, i, h => by simp at h
  | d :: ds, a :: as, bs, i, h => by
    simp only [List.cons_append, smallBs]
    rw [smallBs_append (by simpa using h)]
theorem dropA_append : ∀ {ds : List BD} {as bs : List Atom}, as.length = ds.length → dropA ds (as ++ bs) = bs
  | [], as, bs, h => by cases as <;> simp [dropA] at h ⊢
  | d :: ds, [], bs, h => by simp at h
  | d :: ds, a :: as, bs, h => by
    simp only [List.cons_append, dropA]
    exact dropA_append (by simpa using h)
theorem smallR_append {t : TypeId} : ∀ {ds es : List BD} {as bs : List Atom} {i : Nat}, as.length = ds.length → smallR t i (ds ++ es) (as ++ bs) = smallR t i ds as ++ smallR t (i + ds.length) es bs
  | [], es, as, bs, i, h => by
    obtain rfl : as = [] := by cases as <;> simp at h ⊢
    simp [smallR]
  | d :: ds, es, [], bs, i, h => by simp at h
  | d :: ds, es, a :: as, bs, i, h => by
    have ih := smallR_append (t := t) (ds := ds) (es := es) (as := as) (bs := bs) (i := i + 1) (by simpa using h)
    have e : i + 1 + ds.length = i + (d :: ds).length := by simp; omega
    rw [e] at ih
    cases d <;> simp only [List.cons_append, smallR] <;> first | exact ih | exact congrArg _ ih
theorem smallA_caps {caps caps' : Nat → Nat} : ∀ {ds : List AD} {as : List Atom} {i : Nat}, (∀ j, i ≤ j → caps j = caps' j) → smallA caps i ds as = smallA caps' i ds as
  | [], _, _, _ => rfl
  | .one b :: ds, [], i, h => rfl
  | .one b :: ds, a :: as, i, h => by
    simp only [smallA]
    rw [h i (Nat.le_refl _), smallA_caps (i := Nat.succ i) fun j hj => h j (by omega)]
  | .agg bs :: ds, as, i, h => by
    simp only [smallA]
    rw [smallBs_caps h, smallA_caps (i := Nat.add i (lenL bs 0)) fun j hj => h j (Nat.le_trans (Nat.le_add_right i _) hj)]
/-- what is laid for arguments -/
def LaidA (w : World) (t : TypeId) (i : Nat) (ds : List AD) (as : List Atom) (us : List Value) : Prop :=
  ∃ (ts : Nat → Nat × Nat × Nat) (caps : Nat → Nat), (∀ ψ : Phi, (∀ j, i ≤ j → j < i + (flatD ds).length → ψ (.blk (900 + j)) = some (ts j)) → VRels ψ (smallA caps i ds as) us) ∧
    ∀ (ψ : Phi) x o, (x, o) ∈ smallR t i (flatD ds) as → ∃ j, i ≤ j ∧ j < i + (flatD ds).length ∧ x = 900 + j ∧ (o.nul = true ∨ ∃ u, (ts j).1 < w.heap.size ∧ w.heap[(ts j).1]? = some u ∧ ORel ψ o (ts j).2.1 (ts j).2.2 (thaw u))
section
variable {w0 w : World} {φ : Phi} {RO : PT AObj} {st : St}
theorem laidA_one {t : TypeId} {i : Nat} {d : BD} {a : Atom} {ds : List AD} {as : List Atom} {u : Value} {us : List Value}
    (h1 : ∃ (t3 : Nat × Nat × Nat) (cap : Nat), (∀ (ψ : Phi), ψ (.blk (900 + i)) = some t3 → VRel ψ (smallB i cap d a) u) ∧
      ∀ (ψ : Phi) t x o, (x, o) ∈ smallR t i [d] [a] → x = 900 + i ∧ (o.nul = true ∨ ∃ u, t3.1 < w.heap.size ∧ w.heap[t3.1]? = some u ∧ ORel ψ o t3.2.1 t3.2.2 (thaw u)))
    (h2 : LaidA w t (i + 1) ds as us) : LaidA w t i (.one d :: ds) (a :: as) (u :: us) := by
  obtain ⟨t3, cap, k1, k2⟩ := h1
  obtain ⟨ts, caps, k3, k4⟩ := h2
  refine ⟨fun j => if j = i then t3 else ts j, fun j => if j = i then cap else caps j, fun ψ hψ => ?_, fun ψ x o hx => ?_⟩
  · refine .cons _ _ _ _ ?_ ?_
    · have h9 : ψ (.blk (900 + i)) = some (if i = i then t3 else ts i) := hψ i (Nat.le_refl _) (by simp [flatD])
      rw [if_pos rfl] at h9
      have h8 := k1 ψ h9
      simpa using h8
    · rw [smallA_caps (caps' := caps) fun j hj => if_neg (by omega)]
      refine k3 ψ fun j hj1 hj2 => ?_
      have h9 : ψ (.blk (900 + j)) = some (if j = i then t3 else ts j) := hψ j (by omega) (by simp [flatD]; omega)
      rwa [if_neg (by omega)] at h9
  · have hx' : (x, o) ∈ smallR t i [d] [a] ∨ (x, o) ∈ smallR t (i + 1) (flatD ds) as := by
      cases d <;> simp only [flatD, smallR, List.mem_cons] at hx ⊢
      · exact .inr hx
      · exact .inr hx
      · exact .inr hx
      · rcases hx with hx | hx
        · exact .inl (.inl hx)
        · exact .inr hx
      · rcases hx with hx | hx
        · exact .inl (.inl hx)
        · exact .inr hx
    rcases hx' with hx | hx
    · obtain ⟨rfl, h⟩ := k2 ψ t x o hx
      exact ⟨i, Nat.le_refl _, by simp [flatD], rfl, by simpa using h⟩
    · obtain ⟨j, h1, h2, h3, h4⟩ := k4 ψ x o hx
      exact ⟨j, by omega, by simp [flatD]; omega, h3, by simpa [show j ≠ i by omega] using h4⟩
theorem laidA_agg {t : TypeId} {i : Nat} {bs : List BD} {a1 : List Atom} {ds : List AD} {as : List Atom} {c : Array Value} {us : List Value} (hl : a1.length = bs.length)
    (h1 : Laid w t i bs a1 c.toList) (h2 : LaidA w t (i + bs.length) ds as us) : LaidA w t i (.agg bs :: ds) (a1 ++ as) (.agg c :: us) := by
  obtain ⟨ts1, caps1, k1, k2⟩ := h1
  obtain ⟨ts, caps, k3, k4⟩ := h2
  have hfl : (flatD (.agg bs :: ds)).length = bs.length + (flatD ds).length := by simp [flatD]
  refine ⟨fun j => if j < i + bs.length then ts1 j else ts j, fun j => if j < i + bs.length then caps1 j else caps j, fun ψ hψ => ?_, fun ψ x o hx => ?_⟩
  · have h9 : ∀ j, i ≤ j → j < i + (bs.length + (flatD ds).length) → ψ (.blk (900 + j)) = some (if j < i + bs.length then ts1 j else ts j) := fun j h1 h2 => hψ j h1 (by rw [hfl]; exact h2)
    refine .cons _ _ _ _ (.agg _ _ ?_) ?_
    · have e : ∀ (cs : Nat → Nat) (i : Nat) (bs : List BD) (as : List Atom), (∀ j, i ≤ j → j < i + bs.length → cs j = caps1 j) → smallBs cs i bs as = smallBs caps1 i bs as := by
        intro cs i bs
        induction bs generalizing i with
        | nil => intro as _; rfl
        | cons d bs ih =>
          intro as h
          cases as with
          | nil => rfl
          | cons a as =>
            simp only [smallBs]
            rw [h i (Nat.le_refl _) (by simp), ih (Nat.succ i) as fun j h1 h2 => h j (by omega) (by simp; omega)]
      rw [smallBs_append hl, e _ i bs a1 fun j h1 h2 => if_pos h2]
      refine k1 ψ fun j hj1 hj2 => ?_
      have := h9 j hj1 (by omega)
      rwa [if_pos hj2] at this
    · rw [dropA_append hl]
      rw [lenL0]
      show VRels ψ (smallA _ (i + bs.length) ds as) us
      rw [smallA_caps (caps' := caps) fun j hj => if_neg (by omega)]
      refine k3 ψ fun j hj1 hj2 => ?_
      have := h9 j (by omega) (by omega)
      rwa [if_neg (by omega)] at this
  · have hx' : (x, o) ∈ smallR t i bs a1 ++ smallR t (i + bs.length) (flatD ds) as := by rw [← smallR_append hl]; exact hx
    rcases List.mem_append.1 hx' with hx | hx
    · obtain ⟨j, h1, h2, h3, h4⟩ := k2 ψ x o hx
      exact ⟨j, h1, by rw [hfl]; omega, h3, by simpa [h2] using h4⟩
    · obtain ⟨j, h1, h2, h3, h4⟩ := k4 ψ x o hx
      exact ⟨j, by omega, by rw [hfl]; omega, h3, by simpa [show ¬ j < i + bs.length by omega] using h4⟩
theorem viewA_ok {t : TypeId} : ∀ {ds : List AD} {vs : List AVal} {op : OP} {as : List Atom} {us : List Value}, viewA RO st ds vs = some (op, as) → op.ok → VRels φ vs us → WRel w0 φ st.heap st.next w → RRel w0 φ RO → ∀ i, atomsOk (flatD ds) as ∧ LaidA w t i ds as us
  | [], [], op, as, us, h, hop, hv, hw, hr, i => by
    simp only [viewA] at h
    cases h
    cases hv
    exact ⟨trivial, fun _ => (0, 0, 0), fun _ => 0, fun ψ _ => .nil, fun ψ x o hx => by cases hx⟩
  | .one d :: ds, v :: vs, op, as, us, h, hop, hv, hw, hr, i => by
    simp only [viewA] at h
    split at h
    · rename_i p a q as' h1 h2
      cases h
      obtain ⟨o1, o2⟩ := bothP_some hop
      cases hv with
      | cons _ u _ us hu hus =>
      obtain ⟨k1, k2⟩ := viewB_ok h1 o1 hu hw hr i
      obtain ⟨k3, k4⟩ := viewA_ok h2 o2 hus hw hr (i + 1)
      exact ⟨⟨k1, k3⟩, laidA_one k2 k4⟩
    · cases h
  | .agg bs :: ds, v :: vs, op, as, us, h, hop, hv, hw, hr, i => by
    simp only [viewA] at h
    split at h
    · rename_i cs
      split at h
      · rename_i p a q as' h1 h2
        cases h
        obtain ⟨o1, o2⟩ := bothP_some hop
        cases hv with
        | cons _ u _ us hu hus =>
        cases hu with
        | agg _ c hc =>
        obtain ⟨k1, k2⟩ := viewBs_ok (t := t) h1 o1 hc hw hr i
        obtain ⟨k3, k4⟩ := viewA_ok (t := t) h2 o2 hus hw hr (i + bs.length)
        exact ⟨atomsOk_append k1 k3, laidA_agg (atomsOk_length k1) k2 k4⟩
      · cases h
    · cases h
  | [], _ :: _, op, as, us, h, hop, hv, hw, hr, i => by simp [viewA] at h
  | _ :: _, [], op, as, us, h, hop, hv, hw, hr, i => by simp [viewA] at h
/-- THE SMALL STATE. -/
theorem small_ok {t : TypeId} {ds : List AD} {vs : List AVal} {op : OP} {as : List Atom} {us : List Value} (hlen : (flatD ds).length ≤ 100) (h : viewA RO st ds vs = some (op, as)) (hop : op.ok) (hv : VRels φ vs us) (hw : WRel w0 φ st.heap st.next w) (hr : RRel w0 φ RO) :
    atomsOk (flatD ds) as ∧ ∃ (ψ : Phi) (caps : Nat → Nat), VRels ψ (smallA caps 0 ds as) us ∧ RRel w ψ (hp (smallR t 0 (flatD ds) as)) ∧ Fresh0 ψ 1000 w ∧ ∀ g b L, ψ (.pool g b L) = none := by
  obtain ⟨k1, ts, caps, k2, k3⟩ := viewA_ok (t := t) h hop hv hw hr 0
  let ψ : Phi := fun k => match k with
    | .blk x => if 900 ≤ x ∧ x < 900 + (flatD ds).length then some (ts (x - 900)) else none
    | .pool _ _ _ => none
  have hψ : ∀ x : Nat, ψ x = if 900 ≤ x ∧ x < 900 + (flatD ds).length then some (ts (x - 900)) else none := fun _ => rfl
  refine ⟨k1, ψ, caps, k2 _ fun j h1 h2 => ?_, rrel_of fun x o hx => ?_, ⟨fun x hx => (hψ x).trans (if_neg (by omega)), fun _ _ _ _ h => (by cases h)⟩, fun _ _ _ => rfl⟩
  · rw [hψ, if_pos (by omega), show 900 + j - 900 = j by omega]
  · obtain ⟨j, h1, h2, rfl, h4⟩ := k3 ψ x o hx
    rcases h4 with h4 | ⟨u, e1, e2, e3⟩
    · exact .inl ⟨h4, by omega⟩
    · refine .inr ⟨(ts j).1, (ts j).2.1, (ts j).2.2, u, ?_, fun h => by omega, e1, e2, e3⟩
      rw [hψ, if_pos (by omega), show 900 + j - 900 = j by omega]
end
/-! the result, brought elsewhere -/
def shN (d x : Nat) : Nat := Nat.add d (Nat.sub x 5000)
def inN (k x : Nat) : Bool := Nat.ble 5000 x && Nat.blt x (Nat.add 5000 k)
mutual
def shV (d : Nat) : AVal → AVal
  | .ptr (some (x, o)) => .ptr (some (shN d x, o))
  | .slice (some (x, o)) n c ex z => .slice (some (shN d x, o)) n c ex z
  | .sslice (x, o) n c ex z => .sslice (shN d x, o) n c ex z
  | .map (some x) => .map (some (shN d x))
  | .tslice x i n c ex wd => .tslice (shN d x) i n c ex wd
  | .func f a b => .func f (shVs d a) (shVs d b)
  | .agg l => .agg (shVs d l)
  | .tuple l => .tuple (shVs d l)
  | v => v
def shVs (d : Nat) : List AVal → List AVal
  | [] => []
  | v :: l => shV d v :: shVs d l
end
mutual
def okV (k : Nat) : AVal → Bool
  | .ptr (some (x, _)) => inN k x
  | .slice (some (x, _)) _ _ _ _ => inN k x
  | .sslice (x, _) _ _ _ _ => inN k x
  | .map (some x) => inN k x
  | .func _ a b => okVs k a && okVs k b
  | .agg l => okVs k l
  | .tuple l => okVs k l
  | .yield _ => false
  | .tslice x _ _ _ _ _ => inN k x
  | .tptr _ _ _ _ => false
  | .pptr _ _ => false
  | _ => true
def okVs (k : Nat) : List AVal → Bool
  | [] => true
  | v :: l => okV k v && okVs k l
end
def shO (d : Nat) : AObj → AObj
  | .cells l t => .cells (shVs d l) t
  | o => o
def okO (k : Nat) : AObj → Bool
  | .cells l _ => okVs k l
  | .sbytes _ _ => true
  | .sints _ _ _ => true
  | .tab _ _ _ => true
  | .smap _ _ _ _ => true
  | _ => false
def okOs (k : Nat) : List AObj → Bool
  | [] => true
  | o :: l => okO k o && okOs k l
noncomputable def addO (d : Nat) : PT AObj → Nat → List AObj → PT AObj
  | H, _, [] => H
  | H, n, o :: os => addO d (H.set n (some (shO d o))) (Nat.succ n) os
def numL : Nat → List AObj → List (Nat × AObj)
  | _, [] => []
  | n, o :: os => (n, o) :: numL (Nat.succ n) os
mutual
def rhoV : AVal → AVal → List (Nat × Nat)
  | .ptr (some (x, _)), v => (match v with | .ptr (some (y, _)) => [(x, y)] | _ => [])
  | .slice (some (x, _)) _ _ _ _, v => (match v with | .slice (some (y, _)) _ _ _ _ => [(x, y)] | _ => [])
  | .sslice (x, _) _ _ _ _, v => (match v with | .slice (some (y, _)) _ _ _ _ => [(x, y)] | .sslice (y, _) _ _ _ _ => [(x, y)] | _ => [])
  | .map (some x), v => (match v with | .map (some y) => [(x, y)] | _ => [])
  | .tslice x _ _ _ _ _, v => (match v with | .tslice y _ _ _ _ _ => [(x, y)] | _ => [])
  | .agg l, v => (match v with | .agg m => rhoVs l m | _ => [])
  | .tuple l, v => (match v with | .tuple m => rhoVs l m | _ => [])
  | _, _ => []
def rhoVs : List AVal → List AVal → List (Nat × Nat)
  | [], _ => []
  | v :: l, m => (match m with | u :: m => rhoV v u ++ rhoVs l m | _ => [])
end
def rhoO : AObj → Option AObj → List (Nat × Nat)
  | .cells l _, some (.cells m _) => rhoVs l m
  | _, _ => []
noncomputable def rhoL (H : PT AObj) : List (Nat × AObj) → List (Nat × Nat) → List (Nat × Nat)
  | [], ρ => ρ
  | (x, o) :: r, ρ => rhoL H r (match lookN ρ x with | some y => ρ ++ rhoO o (H.get y) | none => ρ)
noncomputable def rhoR (r : AVal) (os : List AObj) (v : AVal) (st : St) : List (Nat × Nat) := rhoL st.heap (numL 5000 os) (rhoV r v)
/-- what a run must hand out -/
noncomputable def endK (r : AVal) (os : List AObj) (v : AVal) (st : St) : Prop := valE 5000 (rhoR r os v st) r v ∧ stE 5000 (rhoR r os v st) .leaf st [] (numL 5000 os) (Nat.add 5000 (lenL os 0))
section
variable {χ Ψ : Phi} {d k : Nat}
theorem inN_some {x : Nat} (h : inN k x = true) : 5000 ≤ x ∧ x < 5000 + k := by
  unfold inN at h
  rw [Bool.and_eq_true] at h
  exact ⟨Nat.le_of_ble_eq_true h.1, by have := h.2; rw [Nat.blt_eq] at this; exact this⟩
theorem shN_at (hΨ : ∀ i, i < k → Ψ (.blk (d + i)) = χ (.blk (5000 + i))) {x : Nat} (h : inN k x = true) {t : Nat × Nat × Nat} (hx : χ x = some t) : Ψ (shN d x) = some t := by
  obtain ⟨h1, h2⟩ := inN_some h
  have := hΨ (x - 5000) (by omega)
  rw [show 5000 + (x - 5000) = x by omega] at this
  exact this.trans hx
theorem col_le {φ ψ : Phi} (hP : ∀ g b L t, φ (.pool g b L) = some t → ψ (.pool g b L) = some t) {i : Nat} {c : TCol} {u : Value} (h : VRel φ (c.val i) u) : VRel ψ (c.val i) u := by
  cases c with
  | zs k l => simp only [TCol.val] at h ⊢; cases h with | sint _ _ h => exact .sint _ _ h
  | bs l => simp only [TCol.val] at h ⊢; cases h with | sbool => exact .sbool _
  | ss l =>
    simp only [TCol.val] at h ⊢
    generalize l.getD i [] = q at h ⊢
    cases h with | sstr s => exact .sstr s
  | ps l =>
    simp only [TCol.val] at h ⊢
    generalize l.getD i [] = q at h ⊢
    cases h with
    | pemp A c => exact .pemp A c
    | pbytes _ L o g b n c h hl ho hc => exact .pbytes _ L o g b n c (hP _ _ _ _ h) hl ho hc
theorem rowT_le {φ ψ : Phi} (hP : ∀ g b L t, φ (.pool g b L) = some t → ψ (.pool g b L) = some t) {i : Nat} : ∀ {cs : List TCol} {us : List Value}, VRels φ (rowT i cs) us → VRels ψ (rowT i cs) us
  | [], _, .nil => .nil
  | c :: cs, _, .cons _ _ _ _ h hs => .cons _ _ _ _ (col_le hP h) (rowT_le hP hs)
mutual
theorem shV_ok (hΨ : ∀ i, i < k → Ψ (.blk (d + i)) = χ (.blk (5000 + i))) (hP : ∀ g b L t, χ (.pool g b L) = some t → Ψ (.pool g b L) = some t) : ∀ {v : AVal} {u : Value}, okV k v = true → VRel χ v u → VRel Ψ (shV d v) u
  | .bool b, u, _, h => by cases h; exact VRel.bool (φ := Ψ) _
  | .int j n, u, _, h => by cases h; exact VRel.int (φ := Ψ) _ _
  | .str l, u, _, h => by cases h; exact VRel.str (φ := Ψ) _
  | .sint j n, u, _, h => by cases h; exact VRel.sint (φ := Ψ) _ _ ‹_›
  | .sbool b, u, _, h => by cases h; exact VRel.sbool (φ := Ψ) _
  | .sstr l, u, _, h => by cases h; exact VRel.sstr (φ := Ψ) _
  | .ptr none, u, _, h => by cases h; exact VRel.ptr0 (φ := Ψ)
  | .ptr (some (x, o)), u, hk, h => by
    cases h with
    | ptr _ _ g b n h => exact VRel.ptr (φ := Ψ) _ _ g b n (shN_at hΨ hk h)
  | .slice none n c ex z, u, _, h => by cases h; exact VRel.slice0 (φ := Ψ) _ _
  | .slice (some (x, o)) n c ex z, u, hk, h => by
    cases h with
    | slice _ _ _ _ _ g b n cap _ a h hl hc he hz ha => exact VRel.slice (φ := Ψ) _ _ _ _ _ g b n cap _ a (shN_at hΨ hk h) hl hc he hz ha
  | .sslice (x, o) n c ex z, u, hk, h => by
    cases h with
    | sslice _ _ _ _ _ g b n cap _ a h hl hc he hz ha => exact VRel.sslice (φ := Ψ) _ _ _ _ _ g b n cap _ a (shN_at hΨ hk h) hl hc he hz ha
    | snil => exact VRel.snil (φ := Ψ) _ _ _
    | semp _ A c z => exact VRel.semp (φ := Ψ) _ A c z
  | .map none, u, _, h => by cases h; exact VRel.map0 (φ := Ψ)
  | .map (some x), u, hk, h => by
    cases h with
    | map _ g b n h => exact VRel.map (φ := Ψ) _ g b n (shN_at hΨ hk h)
  | .nilFunc, u, _, h => by cases h; exact VRel.nilFunc (φ := Ψ)
  | .yield x, u, hk, h => by cases hk
  | .tslice x i n c ex wd, u, hk, h => by
    cases h with
    | tslice _ _ _ _ _ _ _ h =>
    refine VRel.tslice (φ := Ψ) _ _ _ _ _ _ _ ?_
    cases h with
    | sslice _ _ _ _ _ g b n cap _ a h hl hc he hz ha => exact VRel.sslice (φ := Ψ) _ _ _ _ _ g b n cap _ a (shN_at hΨ hk h) hl hc he hz ha
    | snil => exact VRel.snil (φ := Ψ) _ _ _
    | semp _ A c _ => exact VRel.semp (φ := Ψ) _ A c _
  | .tptr _ _ _ _, u, hk, h => by cases hk
  | .pbytes l, u, _, h => by
    cases h with
    | pemp A c => exact VRel.pemp (φ := Ψ) A c
    | pbytes _ L o g b n c h hl ho hc => exact VRel.pbytes (φ := Ψ) l L o g b n c (hP _ _ _ _ h) hl ho hc
  | .pptr _ _, u, hk, h => by cases hk
  | .func f a b, u, hk, h => by
    cases h with
    | func _ _ _ va vb ha hb =>
    have hk : (okVs k a && okVs k b) = true := hk
    rw [Bool.and_eq_true] at hk
    exact VRel.func (φ := Ψ) _ _ _ va vb (shVs_ok hΨ hP hk.1 ha) (shVs_ok hΨ hP hk.2 hb)
  | .agg l, u, hk, h => by
    cases h with
    | agg _ c h => exact VRel.agg (φ := Ψ) _ c (shVs_ok hΨ hP hk h)
  | .tuple l, u, hk, h => by
    cases h with
    | tuple _ c h => exact VRel.tuple (φ := Ψ) _ c (shVs_ok hΨ hP hk h)
theorem shVs_ok (hΨ : ∀ i, i < k → Ψ (.blk (d + i)) = χ (.blk (5000 + i))) (hP : ∀ g b L t, χ (.pool g b L) = some t → Ψ (.pool g b L) = some t) : ∀ {l : List AVal} {us : List Value}, okVs k l = true → VRels χ l us → VRels Ψ (shVs d l) us
  | [], us, _, h => by cases h; exact VRels.nil (φ := Ψ)
  | v :: l, us, hk, h => by
    cases h with
    | cons _ u _ us h1 h2 =>
    have hk : (okV k v && okVs k l) = true := hk
    rw [Bool.and_eq_true] at hk
    exact VRels.cons (φ := Ψ) _ _ _ _ (shV_ok hΨ hP hk.1 h1) (shVs_ok hΨ hP hk.2 h2)
end
theorem shVs_length (d : Nat) : ∀ l : List AVal, (shVs d l).length = l.length
  | [] => rfl
  | v :: l => by simp [shVs, shVs_length d l]
theorem sints_any {kk : IntKind} {l : List Int} {t : TypeId} {b n : Nat} {u : Obj} (h : ORel χ (.sints kk l t) b n u) : ORel Ψ (.sints kk l t) b n u := by
  cases h with
  | sints _ _ _ _ _ _ hi h => cases h with
    | cells _ _ t' _ _ c fz hn hb hc hf =>
    have hv := ints_vals hc
    exact .sints _ _ _ _ _ _ hi (.cells _ _ _ _ _ _ _ hn hb (by rw [hv]; exact ints_rel kk l) hf)
theorem shO_ok (hΨ : ∀ i, i < k → Ψ (.blk (d + i)) = χ (.blk (5000 + i))) (hP : ∀ g b L t, χ (.pool g b L) = some t → Ψ (.pool g b L) = some t) {o : AObj} {b n : Nat} {u : Obj} (hk : okO k o = true) (h : ORel χ o b n u) : ORel Ψ (shO d o) b n u := by
  cases o with
  | cells l t =>
    cases h with
    | cells _ _ t' _ _ c fz hn hb hc hf => exact .cells _ _ _ _ _ _ _ hn (by rw [shVs_length]; exact hb) (by rw [shVs_length]; exact shVs_ok hΨ hP hk hc) hf
  | sbytes l t => exact sbytes_any h
  | sints kk l t => exact sints_any h
  | tab n cs t =>
    cases h with
    | tab _ _ _ t' _ _ c fz hn hb h0 hf => exact .tab _ _ _ _ _ _ _ _ hn hb (fun i hi => rowT_le hP (h0 i hi)) hf
  | smap kk ks cs one =>
    cases h with
    | smap _ _ _ _ _ _ ms clock hl hbn hbo h0 => exact .smap _ _ _ _ _ _ ms clock hl hbn hbo fun i z hz => let ⟨h0, m, h1, h2, vs, h3, h4⟩ := h0 i z hz; ⟨h0, m, h1, h2, vs, rowT_le hP h3, h4⟩
  | map es => cases hk
  | loop s j τ m ps a b => cases hk
  | defd => cases hk
theorem shO_nul {o : AObj} (h : o.nul = true) : (shO d o).nul = true := by
  cases o <;> first | exact h | (cases h; done)
theorem okOs_get : ∀ {os : List AObj} {i : Nat} {o : AObj}, okOs k os = true → os[i]? = some o → okO k o = true
  | [], i, o, _, h => by simp at h
  | p :: os, 0, o, hk, h => by
    have hk : (okO k p && okOs k os) = true := hk
    rw [Bool.and_eq_true] at hk
    obtain rfl : p = o := by simpa using h
    exact hk.1
  | p :: os, i + 1, o, hk, h => by
    have hk : (okO k p && okOs k os) = true := hk
    rw [Bool.and_eq_true] at hk
    exact okOs_get hk.2 (by simpa using h)
theorem addO_get (d : Nat) : ∀ (os : List AObj) (H : PT AObj) (n x : Nat), (addO d H n os).get x = if n ≤ x ∧ x < n + os.length then (os[x - n]?).map (shO d) else H.get x
  | [], H, n, x => by
    rw [if_neg (by simp)]; rfl
  | o :: os, H, n, x => by
    show (addO d (H.set n (some (shO d o))) (n + 1) os).get x = _
    rw [addO_get d os]
    by_cases h1 : n + 1 ≤ x ∧ x < n + 1 + os.length
    · rw [if_pos h1, if_pos (by simp; omega), show x - n = (x - (n + 1)) + 1 by omega]
      simp
    · rw [if_neg h1, PT.get_set]
      by_cases h2 : x = n
      · subst h2
        rw [if_pos rfl, if_pos (by simp)]
        simp
      · rw [if_neg h2, if_neg (by simp at h1 ⊢; omega)]
theorem hp_numL : ∀ (os : List AObj) (n x : Nat), (hp (numL n os)).get x = if n ≤ x ∧ x < n + os.length then os[x - n]? else none
  | [], n, x => by
    rw [if_neg (by simp)]; rfl
  | o :: os, n, x => by
    show (PT.set (hp (numL (n + 1) os)) n (some o)).get x = _
    rw [PT.get_set, hp_numL os]
    by_cases h2 : x = n
    · subst h2
      rw [if_pos rfl, if_pos (by simp)]
      simp
    · rw [if_neg h2]
      by_cases h1 : n + 1 ≤ x ∧ x < n + 1 + os.length
      · rw [if_pos h1, if_pos (by simp; omega), show x - n = (x - (n + 1)) + 1 by omega]
        simp
      · rw [if_neg h1, if_neg (by simp; omega)]
end
/-- A RUN IN A SMALL STATE IS A STEP IN ANY. -/
theorem lift_ok {w0 w w' : World} {φ φs : Phi} {st : St} {v : AVal} {st' : St} {u : Value} {r : AVal} {os : List AObj} (hw : WRel w0 φ st.heap st.next w) (hs : StepOk w φs ⟨.leaf, 1000, []⟩ w v st' u w') (hf : Fresh0 φs 1000 w) (hpl : ∀ g b L t, φs (.pool g b L) = some t → φ (.pool g b L) = some t) (hK : endK r os v st')
    (h1 : okV os.length r = true) (h2 : okOs os.length os = true) : StepOk w0 φ st w (shV st.next r) ⟨addO st.next st.heap st.next os, Nat.add st.next (lenL os 0), st.log⟩ u w' := by
  obtain ⟨ψs, a1, a2, a3⟩ := hs
  obtain ⟨b1, b2⟩ := hK
  generalize hρ : rhoR r os v st' = ρ at b1 b2
  have hv := valE_ok (φ := ψs) b1 a1
  obtain ⟨_, c2, c3⟩ := stE_ok (n := 0) (tmps := #[]) b2 (fun x hx => by
    rcases Nat.lt_or_ge x 5000 with h | h
    · exact h
    · exact absurd (hf.high x (by omega)) hx) a3 ⟨rfl, fun t v hv => by cases hv⟩ a2
  rw [lenL0] at c2 ⊢
  generalize hχ : psi 5000 ρ ψs = χ at hv c2 c3
  show StepOk w0 φ st w (shV st.next r) ⟨addO st.next st.heap st.next os, st.next + os.length, st.log⟩ u w'
  have hlow : ∀ x : Nat, φ x ≠ none → x < st.next := fun x hx => Nat.lt_of_not_le fun hle => hx (hw.fresh x hle)
  let Ψ : Phi := fun k => match k with
    | .blk x => if x < st.next then φ (.blk x) else if x < st.next + os.length then χ (.blk (5000 + (x - st.next))) else none
    | .pool g b l => (match φ (.pool g b l) with | some t => some t | none => ψs (.pool g b l))
  have hΨ1 : ∀ x : Nat, x < st.next → Ψ x = φ x := fun x hx => if_pos hx
  have hΨ2 : ∀ i, i < os.length → Ψ (.blk (st.next + i)) = χ (.blk (5000 + i)) := fun i hi => by
    show (if st.next + i < st.next then _ else _) = _
    rw [if_neg (by omega), if_pos (by omega), show st.next + i - st.next = i by omega]
  have hle : φ.le Ψ := fun k t hx => by
    cases k with
    | blk x => exact (hΨ1 x (hlow x (by rw [hx]; exact Option.some_ne_none _))).trans hx
    | pool g b l => show (match φ (.pool g b l) with | some t => some t | none => ψs (.pool g b l)) = _; rw [hx]
  have hbw : Below w.heap.size w w' := c2.below
  have hget : ∀ x o, (addO st.next st.heap st.next os).get x = some o → (x < st.next ∧ st.heap.get x = some o) ∨ ∃ i o', i < os.length ∧ x = st.next + i ∧ os[i]? = some o' ∧ o = shO st.next o' := fun x o hx => by
    rw [addO_get] at hx
    split at hx
    · rename_i hin
      cases hq : os[x - st.next]? with
      | none => rw [hq] at hx; cases hx
      | some o' =>
        rw [hq] at hx
        cases hx
        exact .inr ⟨x - st.next, o', by omega, by omega, hq, rfl⟩
    · exact .inl ⟨hw.lt x o hx, hx⟩
  have hnew : ∀ i o', os[i]? = some o' → (hp (numL 5000 os)).get (5000 + i) = some o' := fun i o' hi => by
    rw [hp_numL, if_pos ⟨by omega, by have := (List.getElem?_eq_some_iff.1 hi).1; omega⟩, show 5000 + i - 5000 = i by omega]
    exact hi
  have hbig : ∀ i o' g b n, os[i]? = some o' → χ (.blk (5000 + i)) = some (g, b, n) → w.heap.size ≤ g := fun i o' g b n hi hx => by
    obtain ⟨g', b', n', u', e1, e2, _⟩ := c2.obj_of (hnew i o' hi) hx
    rw [hx] at e1
    obtain ⟨rfl, _⟩ : g = g' ∧ _ := by simpa using e1
    exact e2
  have hold : ∀ x o g b n, st.heap.get x = some o → φ x = some (g, b, n) → g < w.heap.size := fun x o g b n hx hφ => by
    obtain ⟨g', b', n', u', e1, _, e3, _⟩ := hw.obj_of hx hφ
    rw [hφ] at e1
    obtain ⟨rfl, _⟩ : g = g' ∧ _ := by simpa using e1
    exact (Array.getElem?_eq_some_iff.1 e3).1
  have hχp : ∀ g b L, χ (.pool g b L) = ψs (.pool g b L) := fun g b L => by rw [← hχ]; rfl
  have hnewp : ∀ k b L t, ψs (.pool k b L) = some t → φ (.pool k b L) = none → w.heap.size ≤ k := fun k b L t ht hn => by
    rcases a3.pl k b L t ht with h3 | h3 | ⟨y, o, b', n', h3, _⟩
    · rw [hpl k b L t h3] at hn; cases hn
    · exact h3
    · cases h3
  have hP : ∀ g b L t, χ (.pool g b L) = some t → Ψ (.pool g b L) = some t := fun g b L t ht => by
    show (match φ (.pool g b L) with | some t => some t | none => ψs (.pool g b L)) = _
    rw [hχp] at ht
    cases hq : φ (.pool g b L) with
    | none => exact ht
    | some t2 =>
      obtain ⟨n1, x1, e1, e2, e3⟩ := hw.pool g b L t2 hq
      obtain ⟨n2, x2, f1, f2, f3⟩ := a2.pool g b L t ht
      have hs : w'.heap[g]? = w.heap[g]? := hbw.block g (Array.getElem?_eq_some_iff.1 e2).1
      rw [hs, e2] at f2
      cases f2
      have hn12 : n1 = n2 := by
        cases e3 with | sbytes _ _ _ _ _ e3 => cases f3 with | sbytes _ _ _ _ _ f3 =>
          generalize thaw x1 = xx at e3 f3
          cases e3 with | cells _ _ _ _ _ _ _ i0 _ _ _ => cases f3 with | cells _ _ _ _ _ _ _ j0 _ _ _ => omega
      rw [e1, f1, hn12]
  suffices hh2 : WRel0 w0 Ψ (addO st.next st.heap st.next os) (st.next + os.length) w' ∧ Step0 φ st.heap w Ψ (addO st.next st.heap st.next os) w' by
    refine ⟨Ψ, shV_ok hΨ2 hP h1 hv, ⟨hh2.1, fun k b L t ht => ?_, fun k b L t x o b' n ht hx h4 => ?_⟩, ⟨hh2.2, fun k b L t ht => ?_⟩⟩
    · have ht : (match φ (.pool k b L) with | some t => some t | none => ψs (.pool k b L)) = some t := ht
      cases hq : φ (.pool k b L) with
      | some t2 =>
        rw [hq] at ht
        cases ht
        obtain ⟨n1, x1, e1, e2, e3⟩ := hw.pool k b L t hq
        exact ⟨n1, x1, e1, (hbw.block k (Array.getElem?_eq_some_iff.1 e2).1).trans e2, sbytes_any e3⟩
      | none =>
        rw [hq] at ht
        obtain ⟨n1, x1, e1, e2, e3⟩ := a2.pool k b L t ht
        exact ⟨n1, x1, e1, e2, sbytes_any e3⟩
    · have ht : (match φ (.pool k b L) with | some t => some t | none => ψs (.pool k b L)) = some t := ht
      rcases hget x o hx with ⟨hlt, hx⟩ | ⟨i, o', hi, rfl, ho, rfl⟩
      · rw [hΨ1 x hlt] at h4
        cases hq : φ (.pool k b L) with
        | some t2 => exact hw.apart k b L t2 x o b' n hq hx h4
        | none =>
          rw [hq] at ht
          have h5 := hnewp k b L t ht hq
          have h6 := hold x o k b' n hx h4
          omega
      · rw [hΨ2 i hi] at h4
        cases hq : φ (.pool k b L) with
        | some t2 =>
          obtain ⟨n1, x1, e1, e2, e3⟩ := hw.pool k b L t2 hq
          have h5 := hbig i o' k b' n ho h4
          have h6 := (Array.getElem?_eq_some_iff.1 e2).1
          omega
        | none =>
          rw [hq] at ht
          exact c2.apart k b L t (5000 + i) o' b' n (by rw [hχp]; exact ht) (hnew i o' ho) h4
    · have ht : (match φ (.pool k b L) with | some t => some t | none => ψs (.pool k b L)) = some t := ht
      cases hq : φ (.pool k b L) with
      | some t2 => rw [hq] at ht; exact .inl ht
      | none => rw [hq] at ht; exact .inr (.inl (hnewp k b L t ht hq))
  refine ⟨⟨hw.below.trans (hbw.mono hw.below.size), fun x hx => ?_, fun x o hx => ?_, fun x y o o' g b b' n n' hx hy e1 e2 => ?_, fun x o hx => ?_⟩, ⟨hle, hbw.size, fun x o g b n hx e1 => ?_, fun g hg _ => hbw.block g hg, fun x hx hn y hy => ?_⟩⟩
  · show (if x < st.next then _ else _) = _
    have hx : st.next + os.length ≤ x := hx
    rw [if_neg (by omega), if_neg (by omega)]
  · rcases hget x o hx with ⟨hlt, hx⟩ | ⟨i, o', hi, rfl, ho, rfl⟩
    · rcases hw.obj x o hx with ⟨e1, e2⟩ | ⟨g, b, n, u, e1, e2, e3, e4⟩
      · exact .inl ⟨(hΨ1 x hlt).trans e1, e2⟩
      · exact .inr ⟨g, b, n, u, (hΨ1 x hlt).trans e1, e2, (hbw.block g (Array.getElem?_eq_some_iff.1 e3).1).trans e3, e4.mono hle⟩
    · rcases c2.obj _ _ (hnew i o' ho) with ⟨e1, e2⟩ | ⟨g, b, n, u, e1, e2, e3, e4⟩
      · exact .inl ⟨(hΨ2 i hi).trans e1, shO_nul e2⟩
      · exact .inr ⟨g, b, n, u, (hΨ2 i hi).trans e1, Nat.le_trans hw.below.size e2, e3, shO_ok hΨ2 hP (okOs_get h2 ho) e4⟩
  · rcases hget x o hx with ⟨hlt, hx⟩ | ⟨i, p, hi, rfl, ho, rfl⟩ <;> rcases hget y o' hy with ⟨hlt', hy⟩ | ⟨j, q, hj, rfl, hq, rfl⟩
    · rw [hΨ1 x hlt] at e1
      rw [hΨ1 y hlt'] at e2
      exact hw.inj x y o o' g b b' n n' hx hy e1 e2
    · rw [hΨ1 x hlt] at e1
      rw [hΨ2 j hj] at e2
      have := hold x o g b n hx e1
      have := hbig j q g b' n' hq e2
      omega
    · rw [hΨ1 y hlt'] at e2
      rw [hΨ2 i hi] at e1
      have := hold y o' g b' n' hy e2
      have := hbig i p g b n ho e1
      omega
    · rw [hΨ2 i hi] at e1
      rw [hΨ2 j hj] at e2
      have := c2.inj _ _ _ _ g b b' n n' (hnew i p ho) (hnew j q hq) e1 e2
      omega
  · show x < st.next + os.length
    rcases hget x o hx with ⟨hlt, _⟩ | ⟨i, p, hi, rfl, _⟩
    · omega
    · omega
  · rcases hget x o hx with ⟨hlt, hx⟩ | ⟨i, p, hi, rfl, ho, rfl⟩
    · rw [hΨ1 x hlt] at e1
      exact .inr ⟨x, o, b, n, hx, e1⟩
    · rw [hΨ2 i hi] at e1
      exact .inl (hbig i p g b n ho e1)
  · have hy := hlow y hy
    rcases Nat.lt_or_ge x st.next with hlt | hge
    · rw [hΨ1 x hlt] at hx; exact absurd hn hx
    · omega
section
variable (ds : List AD) (pre : List Atom → Prop) (res : List Atom → AVal) (objs : List Atom → List AObj)
/-- a function as a hook: what it reads, what must be so, what it hands out (its new blocks are numbered from 5000) -/
noncomputable def hookR (RO : PT AObj) (args : List AVal) (st : St) : Option (OP × AVal × St) :=
  match viewA RO st ds args with
  | some (ob, as) => some (andP ob (pre as), shV st.next (res as), ⟨addO st.next st.heap st.next (objs as), Nat.add st.next (lenL (objs as) 0), st.log⟩)
  | none => none
variable {ds pre res objs}
/-- THE HOOK. -/
theorem hookR_ok {P : Program} {w0 : World} {RO : PT AObj} {g : FuncId} (t : TypeId) (hlen : (flatD ds).length ≤ 100) (hb : ∃ fn, P.funcs[g]? = some fn ∧ fn.body.isNone = false ∧ (fn.name == "runtime.NumGoroutine") = false)
    (hk : ∀ as, atomsOk (flatD ds) as → pre as → okV (objs as).length (res as) = true ∧ okOs (objs as).length (objs as) = true)
    (run : ∀ as caps (w : World) (φs : Phi) us, atomsOk (flatD ds) as → pre as → Fresh0 φs 1000 w → RRel w φs (hp (smallR t 0 (flatD ds) as)) → VRels φs (smallA caps 0 ds as) us →
      Calls P g us.toArray w fun e w' => ∃ u v st', e = .returned u ∧ endK (res as) (objs as) v st' ∧ StepOk w φs ⟨.leaf, 1000, []⟩ w v st' u w') :
    Call1Ok P w0 RO g (fun args st => got (hookR ds pre res objs RO args st)) := by
  intro args st v st' h
  obtain ⟨ob, h, hob⟩ := got_some h
  unfold hookR at h
  split at h
  · rename_i op as hv
    cases h
    obtain ⟨h1, h2⟩ := andP_some hob
    refine ⟨⟨[], rfl, Nat.le_add_right _ _, fun b hb _ => ?_⟩, hb, fun φ us w hus hw hr => ?_⟩
    · show (addO _ _ _ _).get b = _
      rw [addO_get, if_neg (by omega)]
    · obtain ⟨k1, φs, caps, k2, k3, k4, k5⟩ := small_ok (t := t) hlen hv h1 hus hw hr
      refine (run as caps w φs us k1 h2 k4 k3 k2).mono fun e w' he => ?_
      obtain ⟨u, v, st', rfl, e1, e2⟩ := he
      obtain ⟨q1, q2⟩ := hk as k1 h2
      exact ⟨u, rfl, lift_ok hw e2 k4 (fun g b L t h => by rw [k5] at h; cases h) e1 q1 q2⟩
  · cases h
end
end Go.Proofs.Ytcofcojjofkgcaa.Abs
/-! functions of tables, and of what has no block, as hooks -/
namespace Go.Proofs.Ytcofcojjofkgcaa.Abs
open Go Go.RowKit Go.Proofs.Ytcofcojjofkgcaa.M
set_option linter.unusedVariables false
/-- an argument: a table, or a value that has no block -/
inductive TA where
  | t (n : Nat) (cs : List TCol) (c : Nat) (ex : Bool) (wd : Nat) (ty : TypeId)
  | v (x : AVal)
def plainV : AVal → Bool
  | .int _ _ => true
  | .sint _ _ => true
  | .bool _ => true
  | .sbool _ => true
  | .str _ => true
  | .sstr _ => true
  | .pbytes _ => true
  | _ => false
section
variable (RO : PT AObj) (st : St)
noncomputable def viewT1 : AVal → Option (OP × TA)
  | .tslice b i n c ex wd => (match rd RO st b with
    | some (.tab m cs ty) => bif Nat.beq i 0 then some (some (n = m), .t n cs c ex wd ty) else none
    | _ => none)
  | v => bif plainV v then some (none, .v v) else none
noncomputable def viewT : List AVal → Option (OP × List TA)
  | [] => some (none, [])
  | x :: xs => match viewT1 RO st x, viewT xs with
    | some (o1, a), some (o2, as) => some (andO o1 o2, a :: as)
    | _, _ => none
end
def argT : Nat → List TA → List AVal
  | _, [] => []
  | i, .t n cs c ex wd ty :: r => .tslice (900 + i) 0 n c ex wd :: argT (i + 1) r
  | i, .v x :: r => x :: argT (i + 1) r
def roT : Nat → List TA → List (Nat × AObj)
  | _, [] => []
  | i, .t n cs c ex wd ty :: r => (900 + i, .tab n cs ty) :: roT (i + 1) r
  | i, .v x :: r => roT (i + 1) r
theorem plain_any {φ ψ : Phi} (hP : ∀ g b L t, φ (.pool g b L) = some t → ψ (.pool g b L) = some t) {v : AVal} {u : Value} (hv : plainV v = true) (h : VRel φ v u) : VRel ψ v u := by
  cases v <;> first | (cases hv; done) | skip
  case int k n => cases h; exact .int _ _
  case sint k n => cases h with | sint _ _ h => exact .sint _ _ h
  case bool => cases h; exact .bool _
  case sbool => cases h; exact .sbool _
  case str => cases h; exact .str _
  case sstr => cases h; exact .sstr _
  case pbytes l => exact col_le (i := 0) (c := .ps [l]) hP h
section
variable {w0 w : World} {φ : Phi} {RO : PT AObj} {st : St}
theorem viewT_ok (hw : WRel w0 φ st.heap st.next w) (hr : RRel w0 φ RO) : ∀ {xs : List AVal} {us : List Value} {op : OP} {as : List TA}, viewT RO st xs = some (op, as) → op.ok → VRels φ xs us → ∀ i,
    ∃ ts : Nat → Option (Nat × Nat × Nat), ∀ ψ : Phi, (∀ j, i ≤ j → j < i + as.length → ψ (.blk (900 + j)) = ts j) → (∀ g b L, ψ (.pool g b L) = φ (.pool g b L)) →
      VRels ψ (argT i as) us ∧ ∀ x o, (x, o) ∈ roT i as → (o.nul = true ∧ 900 ≤ x) ∨ ∃ g b n u, ψ (.blk x) = some (g, b, n) ∧ (x < 900 → g = x ∧ b = 0) ∧ g < w.heap.size ∧ w.heap[g]? = some u ∧ ORel ψ o b n (thaw u)
  | [], us, op, as, h, hop, hv, i => by
    cases h; cases hv
    exact ⟨fun _ => none, fun ψ _ _ => ⟨.nil, fun x o hx => by cases hx⟩⟩
  | x :: xs, us, op, as, h, hop, hv, i => by
    simp only [viewT] at h
    split at h
    · rename_i o1 a o2 as' h1 h2
      cases h
      obtain ⟨q1, q2⟩ := OP.andO_ok hop
      cases hv with
      | cons _ u _ us hv hvs =>
      obtain ⟨ts, hts⟩ := viewT_ok hw hr h2 q2 hvs (i + 1)
      unfold viewT1 at h1
      split at h1
      · rename_i b i0 n c ex wd
        split at h1
        · rename_i m cs ty hrd
          cases hb : Nat.beq i0 0 with
          | false => rw [hb] at h1; cases h1
          | true =>
          rw [hb] at h1
          cases h1
          obtain rfl := Nat.eq_of_beq_eq_true hb
          obtain rfl : n = m := q1
          refine ⟨fun j => if j = i then φ (.blk b) else ts j, fun ψ hψ hP => ?_⟩
          have hi : ψ (.blk (900 + i)) = φ (.blk b) := by rw [hψ i (Nat.le_refl _) (by simp)]; exact if_pos rfl
          obtain ⟨k1, k2⟩ := hts ψ (fun j h3 h4 => by rw [hψ j (by omega) (by simp; omega)]; exact if_neg (by omega)) hP
          have hPle : ∀ g b L t, φ (.pool g b L) = some t → ψ (.pool g b L) = some t := fun g b L t ht => by rw [hP]; exact ht
          refine ⟨.cons _ _ _ _ ?_ k1, fun y o hy => ?_⟩
          · cases hv with
            | tslice _ _ _ _ _ _ _ hv =>
            refine .tslice _ _ _ _ _ _ _ ?_
            cases hv with
            | sslice _ _ _ _ _ g b0 nb cap _ a h hl hc he hz ha => exact .sslice _ _ _ _ _ g b0 nb cap _ a (hi.trans h) hl hc he hz ha
            | snil => exact .snil _ _ _
            | semp _ A c _ => exact .semp _ A c _
          · simp only [roT, List.mem_cons] at hy
            rcases hy with hy | hy
            · cases hy
              rcases rd_some' hrd hw hr with hn | ⟨g, b0, nb, u', e1, e2, e3⟩
              · exact .inl ⟨hn, by omega⟩
              · refine .inr ⟨g, b0, nb, u', hi.trans e1, fun h => by omega, (Array.getElem?_eq_some_iff.1 e2).1, e2, ?_⟩
                generalize thaw u' = uu at e3
                cases e3 with
                | tab _ _ _ t' _ _ cc fz hn hb h0 hf => exact .tab _ _ _ _ _ _ _ _ hn hb (fun i hi => rowT_le hPle (h0 i hi)) hf
            · exact k2 y o hy
        · cases h1
      · rename_i hne
        cases hb : plainV x with
        | false => rw [hb] at h1; cases h1
        | true =>
        rw [hb] at h1
        cases h1
        refine ⟨ts, fun ψ hψ hP => ?_⟩
        obtain ⟨k1, k2⟩ := hts ψ (fun j h3 h4 => hψ j (by omega) (by simp; omega)) hP
        exact ⟨.cons _ _ _ _ (plain_any (fun g b L t ht => by rw [hP]; exact ht) hb hv) k1, k2⟩
    · cases h
theorem smallT_ok {xs : List AVal} {us : List Value} {op : OP} {as : List TA} (hlen : as.length ≤ 100) (hw : WRel w0 φ st.heap st.next w) (hr : RRel w0 φ RO) (h : viewT RO st xs = some (op, as)) (hop : op.ok) (hv : VRels φ xs us) :
    ∃ ψ : Phi, Fresh0 ψ 1000 w ∧ (∀ g b L, ψ (.pool g b L) = φ (.pool g b L)) ∧ RRel w ψ (hp (roT 0 as)) ∧ VRels ψ (argT 0 as) us := by
  obtain ⟨ts, hts⟩ := viewT_ok hw hr h hop hv 0
  let ψ : Phi := fun k => match k with
    | .blk x => if 900 ≤ x ∧ x < 900 + as.length then ts (x - 900) else none
    | .pool g b L => φ (.pool g b L)
  have hψ : ∀ x : Nat, ψ x = if 900 ≤ x ∧ x < 900 + as.length then ts (x - 900) else none := fun _ => rfl
  obtain ⟨k1, k2⟩ := hts ψ (fun j h1 h2 => by rw [hψ, if_pos (by omega), show 900 + j - 900 = j by omega]) (fun _ _ _ => rfl)
  refine ⟨ψ, ⟨fun x hx => (hψ x).trans (if_neg (by omega)), fun k b L t ht => ?_⟩, fun _ _ _ => rfl, rrel_of k2, k1⟩
  obtain ⟨n, x, e1, e2, e3⟩ := hw.pool k b L t ht
  exact ⟨n, x, e1, e2, sbytes_any e3⟩
end
section
variable (num : Nat) (pre : List TA → Prop) (res : List TA → AVal) (objs : List TA → List AObj)
noncomputable def hookT (RO : PT AObj) (args : List AVal) (st : St) : Option (OP × AVal × St) :=
  match viewT RO st args with
  | some (ob, as) => bif Nat.beq (lenL as 0) num then some (andP ob (pre as), shV st.next (res as), ⟨addO st.next st.heap st.next (objs as), Nat.add st.next (lenL (objs as) 0), st.log⟩) else none
  | none => none
variable {num pre res objs}
theorem hookT_ok {P : Program} {w0 : World} {RO : PT AObj} {g : FuncId} (hnum : num ≤ 100) (hb : ∃ fn, P.funcs[g]? = some fn ∧ fn.body.isNone = false ∧ (fn.name == "runtime.NumGoroutine") = false)
    (hk : ∀ as, as.length = num → pre as → okV (objs as).length (res as) = true ∧ okOs (objs as).length (objs as) = true)
    (run : ∀ as (w : World) (φs : Phi) us, as.length = num → pre as → Fresh0 φs 1000 w → RRel w φs (hp (roT 0 as)) → VRels φs (argT 0 as) us →
      Calls P g us.toArray w fun e w' => ∃ u v st', e = .returned u ∧ endK (res as) (objs as) v st' ∧ StepOk w φs ⟨.leaf, 1000, []⟩ w v st' u w') :
    Call1Ok P w0 RO g (fun args st => got (hookT num pre res objs RO args st)) := by
  intro args st v st' h
  obtain ⟨ob, h, hob⟩ := got_some h
  unfold hookT at h
  split at h
  · rename_i op as hv
    cases hn : Nat.beq (lenL as 0) num with
    | false => rw [hn] at h; cases h
    | true =>
    rw [hn] at h
    cases h
    have hn := Nat.eq_of_beq_eq_true hn
    rw [lenL0] at hn
    obtain ⟨h1, h2⟩ := andP_some hob
    refine ⟨⟨[], rfl, Nat.le_add_right _ _, fun b hb _ => ?_⟩, hb, fun φ us w hus hw hr => ?_⟩
    · show (addO _ _ _ _).get b = _
      rw [addO_get, if_neg (by omega)]
    · obtain ⟨φs, k1, k2, k3, k4⟩ := smallT_ok (by omega) hw hr hv h1 hus
      refine (run as w φs us hn h2 k1 k3 k4).mono fun e w' he => ?_
      obtain ⟨u, v, st', rfl, e1, e2⟩ := he
      obtain ⟨q1, q2⟩ := hk as hn h2
      exact ⟨u, rfl, lift_ok hw e2 k1 (fun g b L t h => by rw [← k2]; exact h) e1 q1 q2⟩
  · cases h
end
end Go.Proofs.Ytcofcojjofkgcaa.Abs
