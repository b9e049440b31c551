/- How a struct of numbers comes in by value. By an AI agent. -/
import Derived.Test.YtnhomnaamlbnpaaDoorOpen
namespace Go.Proofs.YtnhomnaamlbnpaaDoor.Open
open Go.ChangeShapes Go.WideShapes Go.ChangeAt Go.RowKit Go.Deep
set_option linter.unusedVariables false
set_option maxRecDepth 20000

section
variable {H : Type} {enc : TypeId × Value → H} {W : World} {base : Nat} {v : Value} {d : DataW H} {p : List MemPlace} {t : TypeId}
/-- a struct of one-cell fields: its row, and each field's own reading -/
theorem open_struct {fs : Array Field} (ht : Tryd.prog.underlying t = some (.struct fs)) (hone : oneCellFields Tryd.prog fs = true) (hC : Tryd.prog.cellsOf t = fs.size)
    (hval : Value.okWide Tryd.prog W .any base t v) (h : DataW.Trod enc Tryd.prog W 0 (fun _ => true) true t v d p) :
    ∃ (cs : Array Value) (n : Nat), v = .agg cs ∧ cs.size = fs.size ∧ ∀ (j : Nat) (f : Field) (u : Value), fs[j]? = some f → cs[j]? = some u → ∃ y, DataW.trod enc Tryd.prog W 0 (fun _ => true) true n f.type [u] = some y := by
  unfold Value.okWide at hval
  rw [ht] at hval
  obtain ⟨cs, rfl, hs, _⟩ := hval
  obtain ⟨fuel, hf⟩ := h
  obtain ⟨ys, n, _, _, hlen, hyl, hy⟩ := DataW.trod_struct ht hf
  refine ⟨cs, n, rfl, by rw [hs, hC], fun j f u hj hu => ?_⟩
  obtain ⟨ho, hk⟩ := hone_of hone j f hj
  have hjl : j < fs.size := (Array.getElem?_eq_some_iff.1 hj).1
  have h1 := hy j f hj
  rw [ho, hk] at h1
  have hcl : j < cs.toList.length := by simp; omega
  have hone' : (cs.toList.drop j).take 1 = [u] := by
    rw [List.drop_eq_getElem_cons hcl]
    have : cs.toList[j] = u := by
      have := (Array.getElem?_eq_some_iff.1 hu).2
      simpa using this
    rw [this]
    rfl
  have h2 : DataW.trod enc Tryd.prog W 0 (fun _ => true) true n f.type [u] = ys[j]? := by rw [← hone']; exact h1
  exact ⟨ys[j]'(by omega), by rw [h2, List.getElem?_eq_getElem (by omega)]⟩
theorem int_field {k : IntKind} {n : Nat} {u : Value} {y : DataW H × List MemPlace} (ht : Tryd.prog.underlying t = some (.int k)) (h : DataW.trod enc Tryd.prog W 0 (fun _ => true) true n t [u] = some y) : ∃ z, u = .int k z ∧ (Lit.int k z).wf = true := by
  obtain ⟨z, hz, _, hw⟩ := DataW.trod_int ht h
  exact ⟨z, by simpa using hz, hw⟩
theorem nat_of_wf {k : IntKind} {m : Nat} {z : Int} (hk : k.signed = false) (hm : (2 : Int) ^ k.bits = (m : Int)) (h : (Lit.int k z).wf = true) : ∃ n : Nat, z = (n : Int) ∧ n < m := by
  simp [Lit.wf, IntKind.min, IntKind.max, hk] at h
  obtain ⟨n, rfl⟩ := Int.eq_ofNat_of_zero_le h.1
  exact ⟨n, rfl, by have := h.2; rw [hm] at this; omega⟩
def InTold (v : Value) : Prop := ∃ (y : Int) (s e c x : Nat), v = .agg #[.int .i64 y, .int .u32 (s : Int), .int .u32 (e : Int), .int .u64 (c : Int), .int .u64 (x : Int)] ∧ s < 4294967296 ∧ e < 4294967296 ∧ c < 18446744073709551616 ∧ x < 18446744073709551616
theorem open_told (hval : Value.okWide Tryd.prog W .any base 39 v) (h : DataW.Trod enc Tryd.prog W 0 (fun _ => true) true 39 v d p) : InTold v := by
  obtain ⟨cs, n, rfl, hs, hf⟩ := open_struct Tryd.underlying39 (by kernel_rfl) (by kernel_rfl) hval h
  have hs5 : cs.size = 5 := hs
  obtain ⟨l, rfl⟩ : ∃ l : List Value, cs = l.toArray := ⟨cs.toList, by simp⟩
  have hl : l.length = 5 := by simpa using hs5
  match l, hl with
  | [a, b, c, d, e], _ =>
    obtain ⟨y0, h0⟩ := hf 0 _ a rfl rfl
    obtain ⟨y1, h1⟩ := hf 1 _ b rfl rfl
    obtain ⟨y2, h2⟩ := hf 2 _ c rfl rfl
    obtain ⟨y3, h3⟩ := hf 3 _ d rfl rfl
    obtain ⟨y4, h4⟩ := hf 4 _ e rfl rfl
    obtain ⟨z0, rfl, _⟩ := int_field Tryd.underlying3 h0
    obtain ⟨z1, rfl, w1⟩ := int_field Tryd.underlying37 h1
    obtain ⟨z2, rfl, w2⟩ := int_field Tryd.underlying37 h2
    obtain ⟨z3, rfl, w3⟩ := int_field Tryd.underlying32 h3
    obtain ⟨z4, rfl, w4⟩ := int_field Tryd.underlying32 h4
    obtain ⟨n1, rfl, l1⟩ := nat_of_wf (m := 4294967296) rfl (by decide) w1
    obtain ⟨n2, rfl, l2⟩ := nat_of_wf (m := 4294967296) rfl (by decide) w2
    obtain ⟨n3, rfl, l3⟩ := nat_of_wf (m := 18446744073709551616) rfl (by decide) w3
    obtain ⟨n4, rfl, l4⟩ := nat_of_wf (m := 18446744073709551616) rfl (by decide) w4
    exact ⟨z0, n1, n2, n3, n4, rfl, l1, l2, l3, l4⟩
end
end Go.Proofs.YtnhomnaamlbnpaaDoor.Open
