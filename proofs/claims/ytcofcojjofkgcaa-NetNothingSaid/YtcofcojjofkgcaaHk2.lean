/- Functions told of by what they read and what they hand out: arguments of structs; the result brought into any state. By an AI agent. -/
import Derived.Test.YtcofcojjofkgcaaHk
namespace Go.Proofs.Ytcofcojjofkgcaa.Abs
open Go Go.RowKit Go.Proofs.Ytcofcojjofkgcaa.M
set_option linter.unusedVariables false
theorem atomsOk_length : ∀ {ds : List BD} {as : List Atom}, atomsOk ds as → as.length = ds.length
  | [], [], _ => rfl
  | d :: ds, a :: as, h => by simp [atomsOk_length h.2]
  | [], _ :: _, h => h.elim
  | _ :: _, [], h => h.elim
theorem atomsOk_append : ∀ {ds : List BD} {as : List Atom} {es : List BD} {bs : List Atom}, atomsOk ds as → atomsOk es bs → atomsOk (ds ++ es) (as ++ bs)
  | [], [], _, _, _, k => k
  | d :: ds, a :: as, _, _, h, k => ⟨h.1, atomsOk_append h.2 k⟩
  | [], _ :: _, _, _, h, _ => h.elim
  | _ :: _, [], _, _, h, _ => h.elim
theorem smallBs_append {caps : Nat → Nat} : ∀ {ds : List BD} {as bs : List Atom} {i : Nat}, as.length = ds.length → smallBs caps i ds (as ++ bs) = smallBs caps i ds as
  | [], as, bs, i, h => by cases as <;> simp [smallBs] at h ⊢
  | d :: ds, [], bs, i, h => by simp at h
  | d :: ds, a :: as, bs, i, h => by
    simp only [List.cons_append, smallBs]
    rw [smallBs_append (by simpa using h)]
theorem dropA_append : ∀ {ds : List BD} {as bs : List Atom}, as.length = ds.length → dropA ds (as ++ bs) = bs
  | [], as, bs, h => by cases as <;> simp [dropA] at h ⊢
  | d :: ds, [], bs, h => by simp at h
  | d :: ds, a :: as, bs, h => by
    simp only [List.cons_append, dropA]
    exact dropA_append (by simpa using h)
theorem smallR_append {t : TypeId} : ∀ {ds es : List BD} {as bs : List Atom} {i : Nat}, as.length = ds.length → smallR t i (ds ++ es) (as ++ bs) = smallR t i ds as ++ smallR t (i + ds.length) es bs
  | [], es, as, bs, i, h => by
    obtain rfl : as = [] := by cases as <;> simp at h ⊢
    simp [smallR]
  | d :: ds, es, [], bs, i, h => by simp at h
  | d :: ds, es, a :: as, bs, i, h => by
    have ih := smallR_append (t := t) (ds := ds) (es := es) (as := as) (bs := bs) (i := i + 1) (by simpa using h)
    have e : i + 1 + ds.length = i + (d :: ds).length := by simp; omega
    rw [e] at ih
    cases d <;> simp only [List.cons_append, smallR] <;> first | exact ih | exact congrArg _ ih
theorem smallA_caps {caps caps' : Nat → Nat} : ∀ {ds : List AD} {as : List Atom} {i : Nat}, (∀ j, i ≤ j → caps j = caps' j) → smallA caps i ds as = smallA caps' i ds as
  | [], _, _, _ => rfl
  | .one b :: ds, [], i, h => rfl
  | .one b :: ds, a :: as, i, h => by
    simp only [smallA]
    rw [h i (Nat.le_refl _), smallA_caps (i := Nat.succ i) fun j hj => h j (by omega)]
  | .agg bs :: ds, as, i, h => by
    simp only [smallA]
    rw [smallBs_caps h, smallA_caps (i := Nat.add i (lenL bs 0)) fun j hj => h j (Nat.le_trans (Nat.le_add_right i _) hj)]
/-- what is laid for arguments -/
def LaidA (w : World) (t : TypeId) (i : Nat) (ds : List AD) (as : List Atom) (us : List Value) : Prop :=
  ∃ (ts : Nat → Nat × Nat × Nat) (caps : Nat → Nat), (∀ ψ : Phi, (∀ j, i ≤ j → j < i + (flatD ds).length → ψ (.blk (900 + j)) = some (ts j)) → VRels ψ (smallA caps i ds as) us) ∧
    ∀ (ψ : Phi) x o, (x, o) ∈ smallR t i (flatD ds) as → ∃ j, i ≤ j ∧ j < i + (flatD ds).length ∧ x = 900 + j ∧ (o.nul = true ∨ ∃ u, (ts j).1 < w.heap.size ∧ w.heap[(ts j).1]? = some u ∧ ORel ψ o (ts j).2.1 (ts j).2.2 (thaw u))
section
variable {w0 w : World} {φ : Phi} {RO : PT AObj} {st : St}
theorem laidA_one {t : TypeId} {i : Nat} {d : BD} {a : Atom} {ds : List AD} {as : List Atom} {u : Value} {us : List Value}
    (h1 : ∃ (t3 : Nat × Nat × Nat) (cap : Nat), (∀ (ψ : Phi), ψ (.blk (900 + i)) = some t3 → VRel ψ (smallB i cap d a) u) ∧
      ∀ (ψ : Phi) t x o, (x, o) ∈ smallR t i [d] [a] → x = 900 + i ∧ (o.nul = true ∨ ∃ u, t3.1 < w.heap.size ∧ w.heap[t3.1]? = some u ∧ ORel ψ o t3.2.1 t3.2.2 (thaw u)))
    (h2 : LaidA w t (i + 1) ds as us) : LaidA w t i (.one d :: ds) (a :: as) (u :: us) := by
  obtain ⟨t3, cap, k1, k2⟩ := h1
  obtain ⟨ts, caps, k3, k4⟩ := h2
  refine ⟨fun j => if j = i then t3 else ts j, fun j => if j = i then cap else caps j, fun ψ hψ => ?_, fun ψ x o hx => ?_⟩
  · refine .cons _ _ _ _ ?_ ?_
    · have h9 : ψ (.blk (900 + i)) = some (if i = i then t3 else ts i) := hψ i (Nat.le_refl _) (by simp [flatD])
      rw [if_pos rfl] at h9
      have h8 := k1 ψ h9
      simpa using h8
    · rw [smallA_caps (caps' := caps) fun j hj => if_neg (by omega)]
      refine k3 ψ fun j hj1 hj2 => ?_
      have h9 : ψ (.blk (900 + j)) = some (if j = i then t3 else ts j) := hψ j (by omega) (by simp [flatD]; omega)
      rwa [if_neg (by omega)] at h9
  · have hx' : (x, o) ∈ smallR t i [d] [a] ∨ (x, o) ∈ smallR t (i + 1) (flatD ds) as := by
      cases d <;> simp only [flatD, smallR, List.mem_cons] at hx ⊢
      · exact .inr hx
      · exact .inr hx
      · exact .inr hx
      · rcases hx with hx | hx
        · exact .inl (.inl hx)
        · exact .inr hx
      · rcases hx with hx | hx
        · exact .inl (.inl hx)
        · exact .inr hx
    rcases hx' with hx | hx
    · obtain ⟨rfl, h⟩ := k2 ψ t x o hx
      exact ⟨i, Nat.le_refl _, by simp [flatD], rfl, by simpa using h⟩
    · obtain ⟨j, h1, h2, h3, h4⟩ := k4 ψ x o hx
      exact ⟨j, by omega, by simp [flatD]; omega, h3, by simpa [show j ≠ i by omega] using h4⟩
theorem laidA_agg {t : TypeId} {i : Nat} {bs : List BD} {a1 : List Atom} {ds : List AD} {as : List Atom} {c : Array Value} {us : List Value} (hl : a1.length = bs.length)
    (h1 : Laid w t i bs a1 c.toList) (h2 : LaidA w t (i + bs.length) ds as us) : LaidA w t i (.agg bs :: ds) (a1 ++ as) (.agg c :: us) := by
  obtain ⟨ts1, caps1, k1, k2⟩ := h1
  obtain ⟨ts, caps, k3, k4⟩ := h2
  have hfl : (flatD (.agg bs :: ds)).length = bs.length + (flatD ds).length := by simp [flatD]
  refine ⟨fun j => if j < i + bs.length then ts1 j else ts j, fun j => if j < i + bs.length then caps1 j else caps j, fun ψ hψ => ?_, fun ψ x o hx => ?_⟩
  · have h9 : ∀ j, i ≤ j → j < i + (bs.length + (flatD ds).length) → ψ (.blk (900 + j)) = some (if j < i + bs.length then ts1 j else ts j) := fun j h1 h2 => hψ j h1 (by rw [hfl]; exact h2)
    refine .cons _ _ _ _ (.agg _ _ ?_) ?_
    · have e : ∀ (cs : Nat → Nat) (i : Nat) (bs : List BD) (as : List Atom), (∀ j, i ≤ j → j < i + bs.length → cs j = caps1 j) → smallBs cs i bs as = smallBs caps1 i bs as := by
        intro cs i bs
        induction bs generalizing i with
        | nil => intro as _; rfl
        | cons d bs ih =>
          intro as h
          cases as with
          | nil => rfl
          | cons a as =>
            simp only [smallBs]
            rw [h i (Nat.le_refl _) (by simp), ih (Nat.succ i) as fun j h1 h2 => h j (by omega) (by simp; omega)]
      rw [smallBs_append hl, e _ i bs a1 fun j h1 h2 => if_pos h2]
      refine k1 ψ fun j hj1 hj2 => ?_
      have := h9 j hj1 (by omega)
      rwa [if_pos hj2] at this
    · rw [dropA_append hl]
      rw [lenL0]
      show VRels ψ (smallA _ (i + bs.length) ds as) us
      rw [smallA_caps (caps' := caps) fun j hj => if_neg (by omega)]
      refine k3 ψ fun j hj1 hj2 => ?_
      have := h9 j (by omega) (by omega)
      rwa [if_neg (by omega)] at this
  · have hx' : (x, o) ∈ smallR t i bs a1 ++ smallR t (i + bs.length) (flatD ds) as := by rw [← smallR_append hl]; exact hx
    rcases List.mem_append.1 hx' with hx | hx
    · obtain ⟨j, h1, h2, h3, h4⟩ := k2 ψ x o hx
      exact ⟨j, h1, by rw [hfl]; omega, h3, by simpa [h2] using h4⟩
    · obtain ⟨j, h1, h2, h3, h4⟩ := k4 ψ x o hx
      exact ⟨j, by omega, by rw [hfl]; omega, h3, by simpa [show ¬ j < i + bs.length by omega] using h4⟩
end
/-! the result, brought elsewhere -/
def shN (d x : Nat) : Nat := Nat.add d (Nat.sub x 5000)
def inN (k x : Nat) : Bool := Nat.ble 5000 x && Nat.blt x (Nat.add 5000 k)
mutual
def shV (d : Nat) : AVal → AVal
  | .ptr (some (x, o)) => .ptr (some (shN d x, o))
  | .slice (some (x, o)) n c ex z => .slice (some (shN d x, o)) n c ex z
  | .sslice (x, o) n c ex z => .sslice (shN d x, o) n c ex z
  | .map (some x) => .map (some (shN d x))
  | .tslice x i n c ex wd => .tslice (shN d x) i n c ex wd
  | .func f a b => .func f (shVs d a) (shVs d b)
  | .agg l => .agg (shVs d l)
  | .tuple l => .tuple (shVs d l)
  | v => v
def shVs (d : Nat) : List AVal → List AVal
  | [] => []
  | v :: l => shV d v :: shVs d l
end
mutual
def okV (k : Nat) : AVal → Bool
  | .ptr (some (x, _)) => inN k x
  | .slice (some (x, _)) _ _ _ _ => inN k x
  | .sslice (x, _) _ _ _ _ => inN k x
  | .map (some x) => inN k x
  | .func _ a b => okVs k a && okVs k b
  | .agg l => okVs k l
  | .tuple l => okVs k l
  | .yield _ => false
  | .tslice x _ _ _ _ _ => inN k x
  | .tptr _ _ _ _ => false
  | .pptr _ _ => false
  | _ => true
def okVs (k : Nat) : List AVal → Bool
  | [] => true
  | v :: l => okV k v && okVs k l
end
mutual
def rhoV : AVal → AVal → List (Nat × Nat)
  | .ptr (some (x, _)), v => (match v with | .ptr (some (y, _)) => [(x, y)] | _ => [])
  | .slice (some (x, _)) _ _ _ _, v => (match v with | .slice (some (y, _)) _ _ _ _ => [(x, y)] | _ => [])
  | .sslice (x, _) _ _ _ _, v => (match v with | .slice (some (y, _)) _ _ _ _ => [(x, y)] | .sslice (y, _) _ _ _ _ => [(x, y)] | _ => [])
  | .map (some x), v => (match v with | .map (some y) => [(x, y)] | _ => [])
  | .tslice x _ _ _ _ _, v => (match v with | .tslice y _ _ _ _ _ => [(x, y)] | _ => [])
  | .agg l, v => (match v with | .agg m => rhoVs l m | _ => [])
  | .tuple l, v => (match v with | .tuple m => rhoVs l m | _ => [])
  | _, _ => []
def rhoVs : List AVal → List AVal → List (Nat × Nat)
  | [], _ => []
  | v :: l, m => (match m with | u :: m => rhoV v u ++ rhoVs l m | _ => [])
end
section
variable {χ Ψ : Phi} {d k : Nat}
theorem inN_some {x : Nat} (h : inN k x = true) : 5000 ≤ x ∧ x < 5000 + k := by
  unfold inN at h
  rw [Bool.and_eq_true] at h
  exact ⟨Nat.le_of_ble_eq_true h.1, by have := h.2; rw [Nat.blt_eq] at this; exact this⟩
theorem shN_at (hΨ : ∀ i, i < k → Ψ (.blk (d + i)) = χ (.blk (5000 + i))) {x : Nat} (h : inN k x = true) {t : Nat × Nat × Nat} (hx : χ x = some t) : Ψ (shN d x) = some t := by
  obtain ⟨h1, h2⟩ := inN_some h
  have := hΨ (x - 5000) (by omega)
  rw [show 5000 + (x - 5000) = x by omega] at this
  exact this.trans hx
mutual
theorem shV_ok (hΨ : ∀ i, i < k → Ψ (.blk (d + i)) = χ (.blk (5000 + i))) (hP : ∀ g b L t, χ (.pool g b L) = some t → Ψ (.pool g b L) = some t) : ∀ {v : AVal} {u : Value}, okV k v = true → VRel χ v u → VRel Ψ (shV d v) u
  | .bool b, u, _, h => by cases h; exact VRel.bool (φ := Ψ) _
  | .int j n, u, _, h => by cases h; exact VRel.int (φ := Ψ) _ _
  | .str l, u, _, h => by cases h; exact VRel.str (φ := Ψ) _
  | .sint j n, u, _, h => by cases h; exact VRel.sint (φ := Ψ) _ _ ‹_›
  | .sbool b, u, _, h => by cases h; exact VRel.sbool (φ := Ψ) _
  | .sstr l, u, _, h => by cases h; exact VRel.sstr (φ := Ψ) _
  | .ptr none, u, _, h => by cases h; exact VRel.ptr0 (φ := Ψ)
  | .ptr (some (x, o)), u, hk, h => by
    cases h with
    | ptr _ _ g b n h => exact VRel.ptr (φ := Ψ) _ _ g b n (shN_at hΨ hk h)
  | .slice none n c ex z, u, _, h => by cases h; exact VRel.slice0 (φ := Ψ) _ _
  | .slice (some (x, o)) n c ex z, u, hk, h => by
    cases h with
    | slice _ _ _ _ _ g b n cap _ a h hl hc he hz ha => exact VRel.slice (φ := Ψ) _ _ _ _ _ g b n cap _ a (shN_at hΨ hk h) hl hc he hz ha
  | .sslice (x, o) n c ex z, u, hk, h => by
    cases h with
    | sslice _ _ _ _ _ g b n cap _ a h hl hc he hz ha => exact VRel.sslice (φ := Ψ) _ _ _ _ _ g b n cap _ a (shN_at hΨ hk h) hl hc he hz ha
    | snil => exact VRel.snil (φ := Ψ) _ _ _
    | semp _ A c z => exact VRel.semp (φ := Ψ) _ A c z
  | .map none, u, _, h => by cases h; exact VRel.map0 (φ := Ψ)
  | .map (some x), u, hk, h => by
    cases h with
    | map _ g b n h => exact VRel.map (φ := Ψ) _ g b n (shN_at hΨ hk h)
  | .nilFunc, u, _, h => by cases h; exact VRel.nilFunc (φ := Ψ)
  | .yield x, u, hk, h => by cases hk
  | .tslice x i n c ex wd, u, hk, h => by
    cases h with
    | tslice _ _ _ _ _ _ _ h =>
    refine VRel.tslice (φ := Ψ) _ _ _ _ _ _ _ ?_
    cases h with
    | sslice _ _ _ _ _ g b n cap _ a h hl hc he hz ha => exact VRel.sslice (φ := Ψ) _ _ _ _ _ g b n cap _ a (shN_at hΨ hk h) hl hc he hz ha
    | snil => exact VRel.snil (φ := Ψ) _ _ _
    | semp _ A c _ => exact VRel.semp (φ := Ψ) _ A c _
  | .tptr _ _ _ _, u, hk, h => by cases hk
  | .pbytes l, u, _, h => by
    cases h with
    | pemp A c => exact VRel.pemp (φ := Ψ) A c
    | pbytes _ L o g b n c h hl ho hc => exact VRel.pbytes (φ := Ψ) l L o g b n c (hP _ _ _ _ h) hl ho hc
  | .pptr _ _, u, hk, h => by cases hk
  | .func f a b, u, hk, h => by
    cases h with
    | func _ _ _ va vb ha hb =>
    have hk : (okVs k a && okVs k b) = true := hk
    rw [Bool.and_eq_true] at hk
    exact VRel.func (φ := Ψ) _ _ _ va vb (shVs_ok hΨ hP hk.1 ha) (shVs_ok hΨ hP hk.2 hb)
  | .agg l, u, hk, h => by
    cases h with
    | agg _ c h => exact VRel.agg (φ := Ψ) _ c (shVs_ok hΨ hP hk h)
  | .tuple l, u, hk, h => by
    cases h with
    | tuple _ c h => exact VRel.tuple (φ := Ψ) _ c (shVs_ok hΨ hP hk h)
theorem shVs_ok (hΨ : ∀ i, i < k → Ψ (.blk (d + i)) = χ (.blk (5000 + i))) (hP : ∀ g b L t, χ (.pool g b L) = some t → Ψ (.pool g b L) = some t) : ∀ {l : List AVal} {us : List Value}, okVs k l = true → VRels χ l us → VRels Ψ (shVs d l) us
  | [], us, _, h => by cases h; exact VRels.nil (φ := Ψ)
  | v :: l, us, hk, h => by
    cases h with
    | cons _ u _ us h1 h2 =>
    have hk : (okV k v && okVs k l) = true := hk
    rw [Bool.and_eq_true] at hk
    exact VRels.cons (φ := Ψ) _ _ _ _ (shV_ok hΨ hP hk.1 h1) (shVs_ok hΨ hP hk.2 h2)
end
end
section
variable (ds : List AD) (pre : List Atom → Prop) (res : List Atom → AVal) (objs : List Atom → List AObj)
variable {ds pre res objs}
end
end Go.Proofs.Ytcofcojjofkgcaa.Abs
/-! functions of tables, and of what has no block, as hooks -/
namespace Go.Proofs.Ytcofcojjofkgcaa.Abs
open Go Go.RowKit Go.Proofs.Ytcofcojjofkgcaa.M
set_option linter.unusedVariables false
/-- an argument: a table, or a value that has no block -/
inductive TA where
  | t (n : Nat) (cs : List TCol) (c : Nat) (ex : Bool) (wd : Nat) (ty : TypeId)
  | v (x : AVal)
section
variable (RO : PT AObj) (st : St)
end
section
variable {w0 w : World} {φ : Phi} {RO : PT AObj} {st : St}
end
section
variable (num : Nat) (pre : List TA → Prop) (res : List TA → AVal) (objs : List TA → List AObj)
variable {num pre res objs}
end
end Go.Proofs.Ytcofcojjofkgcaa.Abs
