/- How a row of structs of ints comes in, as a table. By an AI agent. -/
import Derived.Test.YtcofcojjofkgcaaOt
namespace Go.Proofs.Ytcofcojjofkgcaa.Ot
open Go Go.ChangeShapes Go.WideShapes Go.ChangeAt Go.RowKit Go.Deep
open Go.Proofs.Ytcofcojjofkgcaa.M Go.Proofs.Ytcofcojjofkgcaa.Abs Go.Proofs.Ytcofcojjofkgcaa.Open
set_option linter.unusedVariables false
set_option maxRecDepth 20000
section
variable {H : Type} {enc : TypeId × Value → H} {P : Program} {w : World} {base : Nat} {spare : Nat → Bool} {held : Bool}
/-- a slice of structs of one-cell fields, whatever their number: each field of each element, and its own reading -/
theorem open_rows {t e : TypeId} {fs : Array Field} {fuel : Nat} {cs : List Value} {x : DataW H × List MemPlace} (ht : P.underlying t = some (.slice e)) (he : P.underlying e = some (.struct fs))
    (hone : oneCellFields P fs = true) (hC : P.cellsOf e = fs.size) (h : DataW.trod enc P w base spare held fuel t cs = some x) :
    (cs = [.slice none 0 0]) ∨
    ∃ (a : Addr) (len cap : Nat), cs = [.slice (some a) len cap] ∧ len ≤ cap ∧ cap ≤ maxLen ∧
      ∀ i, i < len → ∃ (n : Nat), ∀ (j : Nat) (f : Field), fs[j]? = some f → ∃ (v : Value) (y : DataW H × List MemPlace), w.cell? (a.add (i * fs.size + j)) = some v ∧ DataW.trod enc P w base spare held n f.type [v] = some y := by
  rcases open_slice ht h with h0 | ⟨a, len, cap, m, n, D, Pl, hcs, hb, hl, hm, hmm, hx, hi⟩
  · exact .inl h0.1
  · refine .inr ⟨a, len, cap, hcs, hl, hm, fun i him => ?_⟩
    obtain ⟨cs', hc, ht'⟩ := hi i (by rw [hmm]; split <;> omega)
    rw [hC] at hc
    obtain ⟨ys, n', hn', hy, hlen, hyl, hf⟩ := DataW.trod_struct he ht'
    obtain ⟨_, hcl, hat⟩ := World.cells?_some hc
    refine ⟨n', fun j f hj => ?_⟩
    obtain ⟨ho, hk⟩ := hone_of hone j f hj
    have hjl : j < fs.size := (Array.getElem?_eq_some_iff.1 hj).1
    have hcell := hat j hjl
    have hv : cs'[j]? = some (cs'[j]'(by omega)) := List.getElem?_eq_getElem (by omega)
    have h1 := hf j f hj
    rw [ho, hk] at h1
    have hone' : (cs'.drop j).take 1 = [cs'[j]'(by omega)] := by
      rw [List.drop_eq_getElem_cons (by omega)]
      rfl
    rw [hone'] at h1
    have hys : ys[j]? = some (ys[j]'(by omega)) := List.getElem?_eq_getElem (by omega)
    refine ⟨_, _, ?_, h1.trans hys⟩
    rw [← Go.Deep.add_add, hcell, hv]
end
section
variable {H : Type} {enc : TypeId × Value → H} {W : World} {base : Nat} {v : Value} {d : DataW H} {p : List MemPlace}
end
section
variable {H : Type} {enc : TypeId × Value → H} {W : World} {sp : Nat → Bool} {hd : Bool} {b0 : Nat} {a : Addr} {wd j n : Nat} {ty : TypeId}
theorem bs_in (ht : Try.prog.underlying ty = some .bool) (h : ∀ i, i < n → ∃ m v y, W.cell? (a.add (i * wd + j)) = some v ∧ DataW.trod enc Try.prog W b0 sp hd m ty [v] = some y) : ∃ l : List Bool, ColIn W a wd j n (.bs l) := by
  obtain ⟨l, hl, hq⟩ := list_of n (fun i (b : Bool) => W.cell? (a.add (i * wd + j)) = some (.bool b)) fun i hi => by
    obtain ⟨m, v, y, h1, h2⟩ := h i hi
    obtain ⟨b, hb, _⟩ := DataW.trod_bool ht h2
    simp at hb
    subst hb
    exact ⟨b, h1⟩
  refine ⟨l, hl, trivial, fun i hi => ?_⟩
  have hg := List.getElem?_eq_getElem (show i < l.length by omega)
  refine ⟨_, hq i _ hg, fun _ => ?_⟩
  show VRel _ (.sbool (l.getD i false)) _
  rw [List.getD_eq_getElem?_getD, hg]
  exact .sbool _
/-- what a column's type is -/
def CK.is (ty : TypeId) : CK → Prop
  | .z k => Try.prog.underlying ty = some (.int k)
  | .b => Try.prog.underlying ty = some .bool
  | .s => Try.prog.underlying ty = some .string
  | .p => ∃ e, Try.prog.underlying ty = some (.slice e) ∧ Try.prog.underlying e = some (.int .u8) ∧ Try.prog.cellsOf e = 1
theorem c_in {k : CK} (ht : k.is ty) (h : ∀ i, i < n → ∃ m v y, W.cell? (a.add (i * wd + j)) = some v ∧ DataW.trod enc Try.prog W b0 sp hd m ty [v] = some y) : ∃ c : TCol, TCol.kind c = k ∧ ColIn W a wd j n c := by
  cases k with
  | z k => obtain ⟨l, hl⟩ := zs_in ht h; exact ⟨_, rfl, hl⟩
  | b => obtain ⟨l, hl⟩ := bs_in ht h; exact ⟨_, rfl, hl⟩
  | s => obtain ⟨l, hl⟩ := ss_in ht h; exact ⟨_, rfl, hl⟩
  | p => obtain ⟨e, h1, h2, h3⟩ := ht; obtain ⟨l, hl⟩ := ps_in h1 h2 h3 h; exact ⟨_, rfl, hl⟩
end
def emptyC : CK → TCol
  | .z k => .zs k []
  | .b => .bs []
  | .s => .ss []
  | .p => .ps []
theorem emptyC_kind (k : CK) : TCol.kind (emptyC k) = k := by cases k <;> rfl
theorem emptyC_len (k : CK) : (emptyC k).lenIs 0 := by cases k <;> rfl
theorem emptyC_good (k : CK) : TCol.good (emptyC k) := by
  cases k with
  | b => trivial
  | z k => intro z hz; cases hz
  | s => intro z hz; cases hz
  | p => intro z hz; cases hz
/-- a row of structs of one-cell fields comes in -/
theorem open_cs {H : Type} {enc : TypeId × Value → H} {W : World} {base : Nat} {v : Value} {d : DataW H} {p : List MemPlace} {t e : TypeId} {fs : Array Field} (ks : List CK) (ht : Try.prog.underlying t = some (.slice e)) (he : Try.prog.underlying e = some (.struct fs)) (hone : oneCellFields Try.prog fs = true) (hC : Try.prog.cellsOf e = fs.size) (h0 : 0 < fs.size)
    (hk : ∀ j, j < fs.size → ∃ f k, fs[j]? = some f ∧ ks[j]? = some k ∧ k.is f.type) (hks : ks.length = fs.size)
    (hval : Value.okWide Try.prog W .any base t v) (h : DataW.Trod enc Try.prog W 0 (fun _ => true) true t v d p) : ∃ n cs, cs.map TCol.kind = ks ∧ TabIn W v n cs := by
  obtain ⟨a0, len, cap, rfl⟩ := okWide_slice ht hval
  obtain ⟨fuel, hf⟩ := h
  rcases open_rows ht he hone hC hf with hcs | ⟨a, len', cap', hcs, hl, hm, hi⟩
  · simp [Value.cells] at hcs
    obtain ⟨rfl, rfl, rfl⟩ := hcs
    refine ⟨0, ks.map emptyC, by rw [List.map_map]; exact (List.map_congr_left fun k _ => emptyC_kind k).trans (List.map_id _), tabIn_none ?_ fun c hc => ?_⟩
    · clear hk hks
      induction ks with
      | nil => trivial
      | cons k ks ih => exact ⟨emptyC_len k, ih⟩
    · obtain ⟨k, _, rfl⟩ := List.mem_map.1 hc
      exact emptyC_good k
  · simp [Value.cells] at hcs
    obtain ⟨rfl, rfl, rfl⟩ := hcs
    obtain ⟨cs, hll, hq⟩ := list_of fs.size (fun j (c : TCol) => ∀ k, ks[j]? = some k → TCol.kind c = k ∧ ColIn W a fs.size j len c) fun j hj => by
      obtain ⟨f, k, hf1, hk1, hu⟩ := hk j hj
      obtain ⟨c, hc1, hc2⟩ := c_in (W := W) (a := a) (wd := fs.size) (j := j) (n := len) hu fun i hi2 => by
        obtain ⟨n, hn⟩ := hi i hi2
        obtain ⟨u, y, h1, h2⟩ := hn j f hf1
        exact ⟨n, u, y, h1, h2⟩
      exact ⟨c, fun k' hk' => by rw [hk1] at hk'; cases hk'; exact ⟨hc1, hc2⟩⟩
    refine ⟨len, cs, ?_, tab_in (by omega) hl hm fun j c hj => ?_⟩
    · apply List.ext_getElem?
      intro j
      rw [List.getElem?_map]
      cases hj : cs[j]? with
      | none =>
        have := List.getElem?_eq_none_iff.1 hj
        rw [List.getElem?_eq_none (by omega)]; rfl
      | some c =>
        have hlt : j < fs.size := by have := (List.getElem?_eq_some_iff.1 hj).1; omega
        obtain ⟨f, k, _, hk1, _⟩ := hk j hlt
        rw [hk1, Option.map_some, (hq j c hj k hk1).1]
    · have hlt : j < fs.size := by have := (List.getElem?_eq_some_iff.1 hj).1; omega
      obtain ⟨f, k, _, hk1, _⟩ := hk j hlt
      rw [hll]
      exact (hq j c hj k hk1).2
end Go.Proofs.Ytcofcojjofkgcaa.Ot
