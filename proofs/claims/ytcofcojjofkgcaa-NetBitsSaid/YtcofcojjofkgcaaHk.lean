/- Functions told of by what they read and what they hand out: hooks of the interpreter, made from one run in a small state. By an AI agent. -/
import Derived.Test.YtcofcojjofkgcaaTri
import Derived.Test.YtcofcojjofkgcaaAbsY
namespace Go.Proofs.Ytcofcojjofkgcaa.Abs
open Go Go.RowKit Go.Proofs.Ytcofcojjofkgcaa.M
set_option linter.unusedVariables false
section
variable {w0 w : World} {φ : Phi} {RO : PT AObj} {st : St}
theorem objB_length {o n : Nat} {ob : Option AObj} {op : OP} {l : List UInt8} (h : objB o n ob = some (op, l)) (hop : op.ok) : l.length = n := by
  unfold objB at h
  split at h
  · cases h
    have hop : o + n ≤ _ := hop
    rw [List.length_take, List.length_drop]; omega
  · split at h
    · cases h
      have hop : o + n ≤ _ := hop
      rw [List.length_take, List.length_drop]; omega
    · cases h
  · cases h
theorem byts_obj {o n cap : Nat} {a : Addr} {g b0 nb : Nat} {op : OP} {ob : AObj} {x' : Obj} {l : List UInt8} (hcap : n ≤ cap) (ha : (cap = 0 ∧ a.block = g) ∨ a = ⟨g, b0 + o, none⟩) (ho : objB o n (some ob) = some (op, l)) (hop : op.ok) (e2 : w.heap[g]? = some x') (e3 : ORel φ ob b0 nb (thaw x')) (hm : l.length ≤ maxLen) :
    Byts w (fun k => k < w.heap.size) (.slice (some a) n cap) l := by
  have hlen := objB_length ho hop
  refine ⟨some a, n, cap, rfl, hlen, hcap, by rw [← hlen]; exact hm, fun e => (by cases e), fun ad e hp => ?_⟩
  cases e
  obtain ⟨h1, L, c, t', fz, rfl, h3, h4, h5, h7, h8⟩ := objB_read ho hop e3
  rcases ha with ⟨h0, _⟩ | rfl
  · omega
  · refine ⟨(Array.getElem?_eq_some_iff.1 e2).1, fun j x hj => ?_⟩
    rw [add_lit]
    have h9 := cells_at (j := 0) h5 h7
    rw [← h8] at h9
    have hjn : j < n := by have := (List.getElem?_eq_some_iff.1 hj).1; omega
    have hv : (vals l)[j]? = some (.int .u8 (x.toNat : Int)) := by unfold vals; rw [List.getElem?_map, hj]; rfl
    rw [← h9, List.getElem?_take_of_lt (by omega), List.getElem?_drop] at hv
    unfold World.cell?
    simp only [e2]
    simp only [Option.isSome_none, Bool.false_eq_true, if_false]
    rw [← Array.getElem?_toList]
    exact hv
theorem byts_real {b o n cap : Nat} {a : Addr} {g b0 nb : Nat} {op : OP} {l : List UInt8} (hcap : n ≤ cap) (hφ : φ b = some (g, b0, nb)) (ha : (cap = 0 ∧ a.block = g) ∨ a = ⟨g, b0 + o, none⟩) (ho : objB o n (rd RO st b) = some (op, l)) (hop : op.ok) (hw : WRel w0 φ st.heap st.next w) (hr : RRel w0 φ RO) (hm : l.length ≤ maxLen) :
    Byts w (fun k => k < w.heap.size) (.slice (some a) n cap) l := by
  cases hrd : rd RO st b with
  | none => rw [hrd] at ho; cases ho
  | some ob =>
  rw [hrd] at ho
  rcases rd_some' hrd hw hr with hn | ⟨g', b0', nb', x', e1, e2, e3⟩
  · have hlen := objB_length ho hop
    obtain ⟨rfl, rfl⟩ := objB_nul ho hop hn
    exact ⟨some a, 0, cap, rfl, rfl, hcap, Nat.zero_le _, fun _ => rfl, fun ad e hp => absurd hp (by omega)⟩
  · obtain ⟨rfl, rfl, rfl⟩ : g = g' ∧ b0 = b0' ∧ nb = nb' := by rw [hφ] at e1; simpa using e1
    exact byts_obj hcap ha ho hop e2 e3 hm
/-- a slice of bytes, as the interpreter has it, is bytes -/
theorem srcB_byts {x : AVal} {u : Value} {op : OP} {l : List UInt8} (h : srcB RO st x = some (op, l)) (hop : op.ok) (hs : ∀ m, x ≠ .str m) (hs2 : ∀ m, x ≠ .sstr m) (hx : VRel φ x u) (hw : WRel w0 φ st.heap st.next w) (hr : RRel w0 φ RO) (hm : l.length ≤ maxLen) : Byts w (fun k => k < w.heap.size) u l := by
  unfold srcB at h
  split at h
  · cases h
    cases hx
    exact Byts.nil_ _ _ _
  · rename_i b o n c ex z
    cases hx with
    | slice _ _ _ _ _ g b0 nb cap _ a hφ hl hc he hz ha => exact byts_real (by omega) hφ ha h hop hw hr hm
  · rename_i b o n c ex z
    cases hx with
    | sslice _ _ _ _ _ g b0 nb cap _ a hφ hl hc he hz ha => exact byts_real (by omega) hφ ha h hop hw hr hm
    | snil =>
      have := objB_length h hop
      obtain rfl : l = [] := List.length_eq_zero_iff.1 this
      exact Byts.nil_ _ _ _
    | semp _ A c _ =>
      have := objB_length h hop
      obtain rfl : l = [] := List.length_eq_zero_iff.1 this
      exact ⟨A, 0, c, rfl, rfl, Nat.zero_le _, Nat.zero_le _, fun _ => rfl, fun _ _ h0 => absurd h0 (by omega)⟩
  · exact absurd rfl (hs _)
  · exact absurd rfl (hs2 _)
  · rename_i l'
    cases h
    cases hx with
    | pemp A c => exact ⟨A, 0, c, rfl, rfl, Nat.zero_le _, Nat.zero_le _, fun _ => rfl, fun _ _ h0 => absurd h0 (by omega)⟩
    | pbytes _ L oo g b n c hφ hl hlo hc =>
      obtain ⟨n', x', e1, e2, e3⟩ := hw.pool g b L _ hφ
      have hob : objB oo l.length (some (.sbytes L 0)) = some (some (oo + l.length ≤ L.length), l) := by
        show some (_, _) = _
        rw [← hl]
      exact byts_obj hc (.inr rfl) hob hlo e2 e3 hm
  · cases h
end
/-- a slice of ints reads so -/
def Ints (w : World) (k : IntKind) (v : Value) (l : List Int) : Prop :=
  ∃ (A : Option Addr) (n c : Nat), v = .slice A n c ∧ l.length = n ∧ n ≤ c ∧ (A = none → n = 0) ∧ (∀ z ∈ l, inR k z) ∧
    ∀ ad, A = some ad → 0 < n → ∃ g off, ad = ⟨g, off, none⟩ ∧ ∃ (cs : Array Value) (t' : TypeId) (fz : Nat × Nat), w.heap[g]? = some (.cells cs t' fz) ∧ ∀ (j : Nat) (x : Int), l[j]? = some x → cs[off + j]? = some (.int k x)
theorem Ints.nil_ (w : World) (k : IntKind) (c : Nat) : Ints w k (.slice none 0 c) [] := ⟨none, 0, c, rfl, rfl, Nat.zero_le _, fun _ => rfl, fun z hz => (by cases hz), fun ad h => by cases h⟩
theorem lay_ints {w : World} {k : IntKind} {v : Value} {l : List Int} (h : Ints w k v l) : ∃ (t3 : Nat × Nat × Nat) (cap : Nat), (∀ z ∈ l, inR k z) ∧ (∀ (φ : Phi) (x : Nat), φ x = some t3 → VRel φ (.sslice (x, 0) l.length cap true 1) v) ∧
    ∀ (φ : Phi) t, (AObj.sints k l t).nul = true ∨ ∃ u, t3.1 < w.heap.size ∧ w.heap[t3.1]? = some u ∧ ORel φ (.sints k l t) t3.2.1 t3.2.2 (thaw u) := by
  obtain ⟨A, n, c, rfl, hl, hnc, h0, hin, hat⟩ := h
  cases l with
  | nil =>
    obtain rfl : n = 0 := by simpa using hl.symm
    exact ⟨(0, 0, 0), 0, hin, fun φ x hx => .semp _ _ _ _, fun φ t => .inl rfl⟩
  | cons b l =>
    cases A with
    | none => have := h0 rfl; simp at hl; omega
    | some ad =>
    obtain ⟨g, off, rfl, cs, t', fz, hg, hat2⟩ := hat ad rfl (by simp at hl; omega)
    have hlen : off + (b :: l).length ≤ cs.size := by
      have := hat2 l.length ((b :: l)[l.length]'(by simp)) (List.getElem?_eq_getElem (by simp))
      have := (Array.getElem?_eq_some_iff.1 this).1
      simp; omega
    refine ⟨(g, off, cs.size), c, hin, fun φ x hx => ?_, fun φ t => .inr ⟨_, (Array.getElem?_eq_some_iff.1 hg).1, hg, ?_⟩⟩
    · subst hl
      exact VRel.sslice x 0 _ _ 1 g off cs.size c true ⟨g, off, none⟩ hx hnc (Nat.le_refl _) (fun _ => rfl) (by simp) (.inr rfl)
    refine .sints _ _ _ _ _ _ hin (.cells _ _ _ _ _ _ _ rfl (by rw [List.length_map]; exact hlen) ?_ (.inl rfl))
    rw [List.length_map]
    have : (cs.toList.drop off).take (b :: l).length = valsI k (b :: l) := by
      apply List.ext_getElem?
      intro i
      by_cases hi : i < (b :: l).length
      · rw [List.getElem?_take_of_lt hi, List.getElem?_drop, Array.getElem?_toList, hat2 i _ (List.getElem?_eq_getElem hi)]
        unfold valsI
        rw [List.getElem?_map, List.getElem?_eq_getElem hi]
        rfl
      · rw [List.getElem?_eq_none (by simp; simp at hi; omega), List.getElem?_eq_none (by simpa [valsI] using hi)]
    rw [this]
    exact ints_rel k _
section
variable {w0 w : World} {φ : Phi} {RO : PT AObj} {st : St}
theorem objI_length {k : IntKind} {o n : Nat} {ob : Option AObj} {op : OP} {l : List Int} (h : objI k o n ob = some (op, l)) (hop : op.ok) : l.length = n := by
  unfold objI at h
  split at h
  · rename_i j L t
    cases hk : kindEq j k with
    | false => rw [hk] at h; cases h
    | true =>
    rw [hk] at h
    cases h
    have hop : o + n ≤ _ := hop
    rw [List.length_take, List.length_drop]; omega
  · split at h
    · cases h
      have hop : o + n ≤ _ := hop
      rw [List.length_take, List.length_drop]; omega
    · cases h
  · cases h
theorem ints_real {k : IntKind} {b o n cap : Nat} {a : Addr} {g b0 nb : Nat} {op : OP} {l : List Int} (hcap : n ≤ cap) (hφ : φ b = some (g, b0, nb)) (ha : (cap = 0 ∧ a.block = g) ∨ a = ⟨g, b0 + o, none⟩) (ho : objI k o n (rd RO st b) = some (op, l)) (hop : op.ok) (hw : WRel w0 φ st.heap st.next w) (hr : RRel w0 φ RO) :
    Ints w k (.slice (some a) n cap) l := by
  have hlen := objI_length ho hop
  cases hrd : rd RO st b with
  | none => rw [hrd] at ho; cases ho
  | some ob =>
  rw [hrd] at ho
  rcases rd_some' hrd hw hr with hn | ⟨g', b0', nb', x', e1, e2, e3⟩
  · obtain ⟨rfl, rfl⟩ := objI_nul ho hop hn
    exact ⟨some a, 0, cap, rfl, rfl, hcap, fun e => (by cases e), fun z hz => (by cases hz), fun ad _ h => absurd h (by omega)⟩
  · obtain ⟨rfl, rfl, rfl⟩ : g = g' ∧ b0 = b0' ∧ nb = nb' := by rw [hφ] at e1; simpa using e1
    obtain ⟨h1, hin, L, c, t', fz, rfl, h3, h4, h5, h7, h8⟩ := objI_read ho hop e3
    refine ⟨some a, n, cap, rfl, hlen, hcap, fun e => (by cases e), hin, fun ad e hp => ?_⟩
    cases e
    rcases ha with ⟨h0, _⟩ | rfl
    · omega
    · refine ⟨g, b0 + o, rfl, c, t', fz, e2, fun j x hj => ?_⟩
      have h9 := cellsI_at h5 h7
      rw [← h8] at h9
      have hjn : j < n := by have := (List.getElem?_eq_some_iff.1 hj).1; omega
      have hv : (valsI k l)[j]? = some (.int k x) := by unfold valsI; rw [List.getElem?_map, hj]; rfl
      rw [← h9, List.getElem?_take_of_lt (by omega), List.getElem?_drop] at hv
      rw [← Array.getElem?_toList]
      exact hv
/-- a slice of ints, as the interpreter has it -/
theorem srcI_ints {k : IntKind} {x : AVal} {u : Value} {op : OP} {l : List Int} (h : srcI RO k st x = some (op, l)) (hop : op.ok) (hx : VRel φ x u) (hw : WRel w0 φ st.heap st.next w) (hr : RRel w0 φ RO) : Ints w k u l := by
  unfold srcI at h
  split at h
  · cases h
    cases hx
    exact Ints.nil_ _ _ _
  · rename_i b o n c ex z
    cases hx with
    | slice _ _ _ _ _ g b0 nb cap _ a hφ hl hc he hz ha => exact ints_real (by omega) hφ ha h hop hw hr
  · rename_i b o n c ex z
    cases hx with
    | sslice _ _ _ _ _ g b0 nb cap _ a hφ hl hc he hz ha => exact ints_real (by omega) hφ ha h hop hw hr
    | snil =>
      have := objI_length h hop
      obtain rfl : l = [] := List.length_eq_zero_iff.1 this
      exact Ints.nil_ _ _ _
    | semp _ A c _ =>
      have := objI_length h hop
      obtain rfl : l = [] := List.length_eq_zero_iff.1 this
      exact ⟨A, 0, c, rfl, rfl, Nat.zero_le _, fun _ => rfl, fun z hz => (by cases hz), fun _ _ h0 => absurd h0 (by omega)⟩
  · cases h
end
theorem andP_some {ob : OP} {q : Prop} (h : (andP ob q).ok) : ob.ok ∧ q := by
  cases ob with
  | none => exact ⟨trivial, h⟩
  | some p => exact h
theorem andP_mk {ob : OP} {q : Prop} (h : ob.ok) (k : q) : (andP ob q).ok := by
  cases ob with
  | none => exact k
  | some p => exact ⟨h, k⟩
/-! what comes in -/
inductive Atom where
  | z (z : Int)
  | b (b : Bool)
  | l (l : List UInt8)
  | zs (l : List Int)
inductive BD where
  | int (k : IntKind)
  | bool
  | str
  | bytes
  | ints (k : IntKind)
inductive AD where
  | one (d : BD)
  | agg (l : List BD)
def Atom.zOf : Atom → Int
  | .z n => n
  | _ => 0
def Atom.lOf : Atom → List UInt8
  | .l m => m
  | _ => []
def Atom.zsOf : Atom → List Int
  | .zs m => m
  | _ => []
def Atom.bOf : Atom → Bool
  | .b c => c
  | _ => false
def bothP : OP → OP → OP
  | none, q => q
  | some p, none => some p
  | some p, some q => some (p ∧ q)
theorem bothP_some {a b : OP} (h : (bothP a b).ok) : a.ok ∧ b.ok := by
  cases a <;> cases b
  · exact ⟨trivial, trivial⟩
  · exact ⟨trivial, h⟩
  · exact ⟨h, trivial⟩
  · exact h
section
variable (RO : PT AObj) (st : St)
noncomputable def viewB : BD → AVal → Option (OP × Atom)
  | .int k, v => (match asR v with | some (j, z) => bif kindEq j k then some (none, .z z) else none | none => none)
  | .bool, v => (match asBo v with | some b => some (none, .b b) | none => none)
  | .str, v => (match asB v with | some l => some (some (l.length ≤ 9223372036854775807), .l l) | none => none)
  | .bytes, v => (match v with
    | .str _ => none
    | .sstr _ => none
    | v => (match srcB RO st v with | some (ob, l) => some (andP ob (l.length ≤ 9223372036854775807), .l l) | none => none))
  | .ints k, v => (match srcI RO k st v with | some (ob, l) => some (andP ob (l.length ≤ 9223372036854775807), .zs l) | none => none)
noncomputable def viewBs : List BD → List AVal → Option (OP × List Atom)
  | [], [] => some (none, [])
  | d :: ds, v :: vs => (match viewB RO st d v, viewBs ds vs with
    | some (p, a), some (q, as) => some (bothP p q, a :: as)
    | _, _ => none)
  | _, _ => none
noncomputable def viewA : List AD → List AVal → Option (OP × List Atom)
  | [], [] => some (none, [])
  | d :: ds, v :: vs => (match d with
    | .one b => (match viewB RO st b v, viewA ds vs with
      | some (p, a), some (q, as) => some (bothP p q, a :: as)
      | _, _ => none)
    | .agg bs => (match v with
      | .agg cs => (match viewBs RO st bs cs, viewA ds vs with
        | some (p, a), some (q, as) => some (bothP p q, a ++ as)
        | _, _ => none)
      | _ => none))
  | _, _ => none
end
/-- an atom that is one -/
def atomOk : BD → Atom → Prop
  | .int k, .z z => inR k z
  | .bool, .b _ => True
  | .str, .l l => l.length ≤ 9223372036854775807
  | .bytes, .l l => l.length ≤ 9223372036854775807
  | .ints k, .zs l => l.length ≤ 9223372036854775807 ∧ ∀ z ∈ l, inR k z
  | _, _ => False
def atomsOk : List BD → List Atom → Prop
  | [], [] => True
  | d :: ds, a :: as => atomOk d a ∧ atomsOk ds as
  | _, _ => False
def flatD : List AD → List BD
  | [] => []
  | .one b :: ds => b :: flatD ds
  | .agg bs :: ds => bs ++ flatD ds
/-- the small state's argument: the block of what is a row is numbered by its place -/
def smallB (i cap : Nat) : BD → Atom → AVal
  | .int k, a => .sint k a.zOf
  | .bool, a => .sbool a.bOf
  | .str, a => .sstr a.lOf
  | .bytes, a => .sslice (Nat.add 900 i, 0) a.lOf.length cap true 1
  | .ints _, a => .sslice (Nat.add 900 i, 0) a.zsOf.length cap true 1
def smallBs (caps : Nat → Nat) : Nat → List BD → List Atom → List AVal
  | _, [], _ => []
  | _, _ :: _, [] => []
  | i, d :: ds, a :: as => smallB i (caps i) d a :: smallBs caps (Nat.succ i) ds as
def dropA : List BD → List Atom → List Atom
  | [], as => as
  | _ :: ds, as => (match as with | [] => [] | _ :: as => dropA ds as)
def smallA (caps : Nat → Nat) : Nat → List AD → List Atom → List AVal
  | _, [], _ => []
  | i, .one b :: ds, as => (match as with | [] => [] | a :: as => smallB i (caps i) b a :: smallA caps (Nat.succ i) ds as)
  | i, .agg bs :: ds, as => .agg (smallBs caps i bs as) :: smallA caps (Nat.add i (lenL bs 0)) ds (dropA bs as)
def smallR (t : TypeId) : Nat → List BD → List Atom → List (Nat × AObj)
  | _, [], _ => []
  | _, _ :: _, [] => []
  | i, d :: ds, a :: as => (match d with
    | .bytes => (Nat.add 900 i, .sbytes a.lOf t) :: smallR t (Nat.succ i) ds as
    | .ints k => (Nat.add 900 i, .sints k a.zsOf t) :: smallR t (Nat.succ i) ds as
    | _ => smallR t (Nat.succ i) ds as)
section
variable {w0 w : World} {φ : Phi} {RO : PT AObj} {st : St}
theorem viewB_ok {d : BD} {v : AVal} {op : OP} {a : Atom} {u : Value} (h : viewB RO st d v = some (op, a)) (hop : op.ok) (hv : VRel φ v u) (hw : WRel w0 φ st.heap st.next w) (hr : RRel w0 φ RO) (i : Nat) :
    atomOk d a ∧ ∃ (t3 : Nat × Nat × Nat) (cap : Nat), (∀ (ψ : Phi), ψ (.blk (900 + i)) = some t3 → VRel ψ (smallB i cap d a) u) ∧
      ∀ (ψ : Phi) t x o, (x, o) ∈ smallR t i [d] [a] → x = 900 + i ∧ (o.nul = true ∨ ∃ u, t3.1 < w.heap.size ∧ w.heap[t3.1]? = some u ∧ ORel ψ o t3.2.1 t3.2.2 (thaw u)) := by
  cases d with
  | int k =>
    simp only [viewB] at h
    split at h
    · rename_i j z hz
      cases hk : kindEq j k with
      | false => rw [hk] at h; cases h
      | true =>
      rw [hk] at h
      cases h
      obtain rfl := kindEq_eq _ _ hk
      obtain ⟨rfl, hi⟩ := asR_rel hz hv
      exact ⟨hi, (0, 0, 0), 0, fun ψ _ => VRel.sint _ _ hi, fun ψ t x o hx => by cases hx⟩
    · cases h
  | bool =>
    simp only [viewB] at h
    split at h
    · rename_i b hb
      cases h
      obtain rfl := asBo_rel hb hv
      exact ⟨trivial, (0, 0, 0), 0, fun ψ _ => VRel.sbool _, fun ψ t x o hx => by cases hx⟩
    · cases h
  | str =>
    simp only [viewB] at h
    split at h
    · rename_i l hl
      cases h
      obtain ⟨s, rfl, rfl⟩ := asB_rel hl hv
      exact ⟨hop, (0, 0, 0), 0, fun ψ _ => VRel.sstr _, fun ψ t x o hx => by cases hx⟩
    · cases h
  | bytes =>
    simp only [viewB] at h
    split at h
    · cases h
    · cases h
    · rename_i hs hs2
      split at h
      · rename_i ob l hl
        cases h
        obtain ⟨h1, h2⟩ := andP_some hop
        have hB := srcB_byts hl h1 hs hs2 hv hw hr (by unfold maxLen; omega)
        obtain ⟨t3, cap, _, hrel, hobj⟩ := lay_bytes hB
        refine ⟨h2, t3, cap, fun ψ hψ => hrel ψ _ hψ, fun ψ t x o hx => ?_⟩
        obtain ⟨rfl, rfl⟩ : x = Nat.add 900 i ∧ o = .sbytes l t := by simpa [smallR, Atom.lOf] using hx
        exact ⟨rfl, hobj ψ t⟩
      · cases h
  | ints k =>
    simp only [viewB] at h
    split at h
    · rename_i ob l hl
      cases h
      obtain ⟨h1, h2⟩ := andP_some hop
      have hB := srcI_ints hl h1 hv hw hr
      obtain ⟨t3, cap, hin, hrel, hobj⟩ := lay_ints hB
      refine ⟨⟨h2, hin⟩, t3, cap, fun ψ hψ => hrel ψ _ hψ, fun ψ t x o hx => ?_⟩
      obtain ⟨rfl, rfl⟩ : x = Nat.add 900 i ∧ o = .sints k l t := by simpa [smallR, Atom.zsOf] using hx
      exact ⟨rfl, hobj ψ t⟩
    · cases h
/-- what is laid for values: where each lies -/
def Laid (w : World) (t : TypeId) (i : Nat) (ds : List BD) (as : List Atom) (us : List Value) : Prop :=
  ∃ (ts : Nat → Nat × Nat × Nat) (caps : Nat → Nat), (∀ ψ : Phi, (∀ j, i ≤ j → j < i + ds.length → ψ (.blk (900 + j)) = some (ts j)) → VRels ψ (smallBs caps i ds as) us) ∧
    ∀ (ψ : Phi) x o, (x, o) ∈ smallR t i ds as → ∃ j, i ≤ j ∧ j < i + ds.length ∧ x = 900 + j ∧ (o.nul = true ∨ ∃ u, (ts j).1 < w.heap.size ∧ w.heap[(ts j).1]? = some u ∧ ORel ψ o (ts j).2.1 (ts j).2.2 (thaw u))
theorem laid_nil (w : World) (t : TypeId) (i : Nat) : Laid w t i [] [] [] := ⟨fun _ => (0, 0, 0), fun _ => 0, fun ψ _ => .nil, fun ψ x o hx => by cases hx⟩
theorem smallBs_caps {caps caps' : Nat → Nat} : ∀ {ds : List BD} {as : List Atom} {i : Nat}, (∀ j, i ≤ j → caps j = caps' j) → smallBs caps i ds as = smallBs caps' i ds as
  | [], _, _, _ => rfl
  | _ :: _, [], _, _ => rfl
  | d :: ds, a :: as, i, h => by
    simp only [smallBs]
    rw [h i (Nat.le_refl _), smallBs_caps (ds := ds) (as := as) (i := Nat.succ i) fun j hj => h j (by omega)]
theorem laid_cons {t : TypeId} {i : Nat} {d : BD} {a : Atom} {ds : List BD} {as : List Atom} {u : Value} {us : List Value}
    (h1 : ∃ (t3 : Nat × Nat × Nat) (cap : Nat), (∀ (ψ : Phi), ψ (.blk (900 + i)) = some t3 → VRel ψ (smallB i cap d a) u) ∧
      ∀ (ψ : Phi) t x o, (x, o) ∈ smallR t i [d] [a] → x = 900 + i ∧ (o.nul = true ∨ ∃ u, t3.1 < w.heap.size ∧ w.heap[t3.1]? = some u ∧ ORel ψ o t3.2.1 t3.2.2 (thaw u)))
    (h2 : Laid w t (i + 1) ds as us) : Laid w t i (d :: ds) (a :: as) (u :: us) := by
  obtain ⟨t3, cap, k1, k2⟩ := h1
  obtain ⟨ts, caps, k3, k4⟩ := h2
  refine ⟨fun j => if j = i then t3 else ts j, fun j => if j = i then cap else caps j, fun ψ hψ => ?_, fun ψ x o hx => ?_⟩
  · refine .cons _ _ _ _ ?_ ?_
    · have h9 : ψ (.blk (900 + i)) = some (if i = i then t3 else ts i) := hψ i (Nat.le_refl _) (by simp)
      rw [if_pos rfl] at h9
      have h8 := k1 ψ h9
      simpa using h8
    · rw [smallBs_caps (caps' := caps) fun j hj => if_neg (by omega)]
      refine k3 ψ fun j hj1 hj2 => ?_
      have h9 : ψ (.blk (900 + j)) = some (if j = i then t3 else ts j) := hψ j (by omega) (by simp; omega)
      rwa [if_neg (by omega)] at h9
  · have hx' : (x, o) ∈ smallR t i [d] [a] ∨ (x, o) ∈ smallR t (i + 1) ds as := by
      cases d <;> simp only [smallR, List.mem_cons] at hx ⊢
      · exact .inr hx
      · exact .inr hx
      · exact .inr hx
      · rcases hx with hx | hx
        · exact .inl (.inl hx)
        · exact .inr hx
      · rcases hx with hx | hx
        · exact .inl (.inl hx)
        · exact .inr hx
    rcases hx' with hx | hx
    · obtain ⟨rfl, h⟩ := k2 ψ t x o hx
      exact ⟨i, Nat.le_refl _, by simp, rfl, by simpa using h⟩
    · obtain ⟨j, h1, h2, h3, h4⟩ := k4 ψ x o hx
      exact ⟨j, by omega, by simp; omega, h3, by simpa [show j ≠ i by omega] using h4⟩
theorem viewBs_ok {t : TypeId} : ∀ {ds : List BD} {vs : List AVal} {op : OP} {as : List Atom} {us : List Value}, viewBs RO st ds vs = some (op, as) → op.ok → VRels φ vs us → WRel w0 φ st.heap st.next w → RRel w0 φ RO → ∀ i, atomsOk ds as ∧ Laid w t i ds as us
  | [], [], op, as, us, h, hop, hv, hw, hr, i => by
    simp only [viewBs] at h
    cases h
    cases hv
    exact ⟨trivial, laid_nil _ _ _⟩
  | d :: ds, v :: vs, op, as, us, h, hop, hv, hw, hr, i => by
    simp only [viewBs] at h
    split at h
    · rename_i p a q as' h1 h2
      cases h
      obtain ⟨o1, o2⟩ := bothP_some hop
      cases hv with
      | cons _ u _ us hu hus =>
      obtain ⟨k1, k2⟩ := viewB_ok h1 o1 hu hw hr i
      obtain ⟨k3, k4⟩ := viewBs_ok h2 o2 hus hw hr (i + 1)
      exact ⟨⟨k1, k3⟩, laid_cons k2 k4⟩
    · cases h
  | [], _ :: _, op, as, us, h, hop, hv, hw, hr, i => by simp [viewBs] at h
  | _ :: _, [], op, as, us, h, hop, hv, hw, hr, i => by simp [viewBs] at h
end
end Go.Proofs.Ytcofcojjofkgcaa.Abs
