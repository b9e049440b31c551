/- How a row of structs of ints comes in, as a table. By an AI agent. -/
import Derived.Test.YtacfalpoimjemaaOt
namespace Go.Proofs.Ytacfalpoimjemaa.Ot
open Go Go.ChangeShapes Go.WideShapes Go.ChangeAt Go.RowKit Go.Deep
open Go.Proofs.Ytacfalpoimjemaa.M Go.Proofs.Ytacfalpoimjemaa.Abs Go.Proofs.Ytacfalpoimjemaa.Open
set_option linter.unusedVariables false
set_option maxRecDepth 20000
section
variable {H : Type} {enc : TypeId × Value → H} {P : Program} {w : World} {base : Nat} {spare : Nat → Bool} {held : Bool}
/-- a slice of structs of one-cell fields, whatever their number: each field of each element, and its own reading -/
theorem open_rows {t e : TypeId} {fs : Array Field} {fuel : Nat} {cs : List Value} {x : DataW H × List MemPlace} (ht : P.underlying t = some (.slice e)) (he : P.underlying e = some (.struct fs))
    (hone : oneCellFields P fs = true) (hC : P.cellsOf e = fs.size) (h : DataW.trod enc P w base spare held fuel t cs = some x) :
    (cs = [.slice none 0 0]) ∨
    ∃ (a : Addr) (len cap : Nat), cs = [.slice (some a) len cap] ∧ len ≤ cap ∧ cap ≤ maxLen ∧
      ∀ i, i < len → ∃ (n : Nat), ∀ (j : Nat) (f : Field), fs[j]? = some f → ∃ (v : Value) (y : DataW H × List MemPlace), w.cell? (a.add (i * fs.size + j)) = some v ∧ DataW.trod enc P w base spare held n f.type [v] = some y := by
  rcases open_slice ht h with h0 | ⟨a, len, cap, m, n, D, Pl, hcs, hb, hl, hm, hmm, hx, hi⟩
  · exact .inl h0.1
  · refine .inr ⟨a, len, cap, hcs, hl, hm, fun i him => ?_⟩
    obtain ⟨cs', hc, ht'⟩ := hi i (by rw [hmm]; split <;> omega)
    rw [hC] at hc
    obtain ⟨ys, n', hn', hy, hlen, hyl, hf⟩ := DataW.trod_struct he ht'
    obtain ⟨_, hcl, hat⟩ := World.cells?_some hc
    refine ⟨n', fun j f hj => ?_⟩
    obtain ⟨ho, hk⟩ := hone_of hone j f hj
    have hjl : j < fs.size := (Array.getElem?_eq_some_iff.1 hj).1
    have hcell := hat j hjl
    have hv : cs'[j]? = some (cs'[j]'(by omega)) := List.getElem?_eq_getElem (by omega)
    have h1 := hf j f hj
    rw [ho, hk] at h1
    have hone' : (cs'.drop j).take 1 = [cs'[j]'(by omega)] := by
      rw [List.drop_eq_getElem_cons (by omega)]
      rfl
    rw [hone'] at h1
    have hys : ys[j]? = some (ys[j]'(by omega)) := List.getElem?_eq_getElem (by omega)
    refine ⟨_, _, ?_, h1.trans hys⟩
    rw [← Go.Deep.add_add, hcell, hv]
end
section
variable {H : Type} {enc : TypeId × Value → H} {W : World} {base : Nat} {v : Value} {d : DataW H} {p : List MemPlace}
theorem open_zs {t e : TypeId} {fs : Array Field} (ks : List IntKind) (ht : Try.prog.underlying t = some (.slice e)) (he : Try.prog.underlying e = some (.struct fs)) (hone : oneCellFields Try.prog fs = true) (hC : Try.prog.cellsOf e = fs.size) (h0 : 0 < fs.size)
    (hk : ∀ j, j < fs.size → ∃ f k, fs[j]? = some f ∧ ks[j]? = some k ∧ Try.prog.underlying f.type = some (.int k)) (hks : ks.length = fs.size)
    (hval : Value.okWide Try.prog W .any base t v) (h : DataW.Trod enc Try.prog W 0 (fun _ => true) true t v d p) : ∃ n ls, ls.length = ks.length ∧ TabIn W v n (List.zipWith TCol.zs ks ls) := by
  obtain ⟨a0, len, cap, rfl⟩ := okWide_slice ht hval
  obtain ⟨fuel, hf⟩ := h
  rcases open_rows ht he hone hC hf with hcs | ⟨a, len', cap', hcs, hl, hm, hi⟩
  · simp [Value.cells] at hcs
    obtain ⟨rfl, rfl, rfl⟩ := hcs
    refine ⟨0, ks.map fun _ => [], by simp, tabIn_none ?_ fun c hc => ?_⟩
    · clear hk hks
      induction ks with
      | nil => trivial
      | cons k ks ih => exact ⟨rfl, ih⟩
    · obtain ⟨i, hi⟩ := List.getElem?_of_mem hc
      rw [List.getElem?_zipWith] at hi
      split at hi
      · rename_i k l hk1 hl1
        cases hi
        rw [List.getElem?_map, hk1] at hl1
        cases hl1
        intro z hz
        cases hz
      · cases hi
  · simp [Value.cells] at hcs
    obtain ⟨rfl, rfl, rfl⟩ := hcs
    obtain ⟨ls, hll, hq⟩ := list_of fs.size (fun j (l : List Int) => ∀ k, ks[j]? = some k → ColIn W a fs.size j len (.zs k l)) fun j hj => by
      obtain ⟨f, k, hf1, hk1, hu⟩ := hk j hj
      obtain ⟨l, hl1⟩ := zs_in (W := W) (a := a) (wd := fs.size) (j := j) (n := len) hu fun i hi2 => by
        obtain ⟨n, hn⟩ := hi i hi2
        obtain ⟨u, y, h1, h2⟩ := hn j f hf1
        exact ⟨n, u, y, h1, h2⟩
      exact ⟨l, fun k' hk' => by rw [hk1] at hk'; cases hk'; exact hl1⟩
    have hcl : (List.zipWith TCol.zs ks ls).length = fs.size := by rw [List.length_zipWith]; omega
    refine ⟨len, ls, by omega, tab_in (cs := List.zipWith TCol.zs ks ls) (by omega) hl hm fun j c hj => ?_⟩
    rw [hcl]
    rw [List.getElem?_zipWith] at hj
    split at hj
    · rename_i k l hk1 hl1
      cases hj
      exact hq j l hl1 k hk1
    · cases hj
end
end Go.Proofs.Ytacfalpoimjemaa.Ot
