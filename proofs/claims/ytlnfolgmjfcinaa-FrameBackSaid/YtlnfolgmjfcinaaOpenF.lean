/- How a frame comes in by value. By an AI agent. -/
import Derived.Test.YtlnfolgmjfcinaaOpen
namespace Go.Proofs.Ytlnfolgmjfcinaa.Open
open Go.ChangeShapes Go.WideShapes Go.ChangeAt Go.RowKit Go.Deep Go.Proofs.Ytlnfolgmjfcinaa.M
set_option linter.unusedVariables false
set_option maxRecDepth 20000
section
variable {H : Type} {enc : TypeId × Value → H} {W : World} {base : Nat} {v : Value} {d : DataW H} {p : List MemPlace} {t e : TypeId}
/-- a struct of one-cell fields: its row, and each field's own reading -/
theorem open_struct {fs : Array Field} (ht : Try.prog.underlying t = some (.struct fs)) (hone : oneCellFields Try.prog fs = true) (hC : Try.prog.cellsOf t = fs.size)
    (hval : Value.okWide Try.prog W .any base t v) (h : DataW.Trod enc Try.prog W 0 (fun _ => true) true t v d p) :
    ∃ (cs : Array Value) (n : Nat), v = .agg cs ∧ cs.size = fs.size ∧ ∀ (j : Nat) (f : Field) (u : Value), fs[j]? = some f → cs[j]? = some u → ∃ y, DataW.trod enc Try.prog W 0 (fun _ => true) true n f.type [u] = some y := by
  unfold Value.okWide at hval
  rw [ht] at hval
  obtain ⟨cs, rfl, hs, _⟩ := hval
  obtain ⟨fuel, hf⟩ := h
  obtain ⟨ys, n, _, _, hlen, hyl, hy⟩ := DataW.trod_struct ht hf
  refine ⟨cs, n, rfl, by rw [hs, hC], fun j f u hj hu => ?_⟩
  obtain ⟨ho, hk⟩ := hone_of hone j f hj
  have hjl : j < fs.size := (Array.getElem?_eq_some_iff.1 hj).1
  have h1 := hy j f hj
  rw [ho, hk] at h1
  have hcl : j < cs.toList.length := by simp; omega
  have hone' : (cs.toList.drop j).take 1 = [u] := by
    rw [List.drop_eq_getElem_cons hcl]
    have : cs.toList[j] = u := by
      have := (Array.getElem?_eq_some_iff.1 hu).2
      simpa using this
    rw [this]
    rfl
  have h2 : DataW.trod enc Try.prog W 0 (fun _ => true) true n f.type [u] = ys[j]? := by rw [← hone']; exact h1
  exact ⟨ys[j]'(by omega), by rw [h2, List.getElem?_eq_getElem (by omega)]⟩
theorem int_field {k : IntKind} {n : Nat} {u : Value} {y : DataW H × List MemPlace} (ht : Try.prog.underlying t = some (.int k)) (h : DataW.trod enc Try.prog W 0 (fun _ => true) true n t [u] = some y) : ∃ z, u = .int k z ∧ (Lit.int k z).wf = true := by
  obtain ⟨z, hz, _, hw⟩ := DataW.trod_int ht h
  exact ⟨z, by simpa using hz, hw⟩
theorem nat_of_wf {k : IntKind} {m : Nat} {z : Int} (hk : k.signed = false) (hm : (2 : Int) ^ k.bits = (m : Int)) (h : (Lit.int k z).wf = true) : ∃ n : Nat, z = (n : Int) ∧ n < m := by
  simp [Lit.wf, IntKind.min, IntKind.max, hk] at h
  obtain ⟨n, rfl⟩ := Int.eq_ofNat_of_zero_le h.1
  exact ⟨n, rfl, by have := h.2; rw [hm] at this; omega⟩
theorem bytes_one {fuel : Nat} {sp : Nat → Bool} {hd : Bool} {b0 : Nat} {x : DataW H × List MemPlace} (ht : Try.prog.underlying t = some (.slice e)) (he : Try.prog.underlying e = some (.int .u8)) (hc : Try.prog.cellsOf e = 1)
    (hf : DataW.trod enc Try.prog W b0 sp hd fuel t [v] = some x) : ∃ l, Byts W (fun k => k < W.heap.size) v l := by
  rcases open_ints ht he hc hf with ⟨hcs, _⟩ | ⟨y, l, c, zs, hcs, _⟩
  · obtain rfl : v = .slice none 0 0 := by simpa using hcs
    exact ⟨[], Byts.nil_ _ _ _⟩
  · obtain rfl : v = .slice (some y) l c := by simpa using hcs
    exact bytes_cells ht he hc hf
def InFrame (W : World) (v : Value) : Prop := ∃ (k s e n a m : Int) (P : List UInt8) (pv : Value), v = .agg #[.int .u8 k, .int .u32 s, .int .u32 e, .int .u32 n, .int .u32 a, .int .u32 m, pv] ∧ (0 ≤ k ∧ k ≤ 255) ∧ (0 ≤ s ∧ s ≤ 4294967295) ∧ (0 ≤ e ∧ e ≤ 4294967295) ∧ (0 ≤ n ∧ n ≤ 4294967295) ∧ (0 ≤ a ∧ a ≤ 4294967295) ∧ (0 ≤ m ∧ m ≤ 4294967295) ∧ Byts W (fun k => k < W.heap.size) pv P
theorem open_frame (hval : Value.okWide Try.prog W .any base 25 v) (h : DataW.Trod enc Try.prog W 0 (fun _ => true) true 25 v d p) : InFrame W v := by
  obtain ⟨cs, n, rfl, hs, hf⟩ := open_struct Try.underlying25 (by kernel_rfl) (by kernel_rfl) hval h
  have hs5 : cs.size = 7 := hs
  obtain ⟨l, rfl⟩ : ∃ l : List Value, cs = l.toArray := ⟨cs.toList, by simp⟩
  have hl : l.length = 7 := by simpa using hs5
  match l, hl with
  | [a, b, c, d, e, f, g], _ =>
    obtain ⟨y0, h0⟩ := hf 0 _ a rfl rfl
    obtain ⟨y1, h1⟩ := hf 1 _ b rfl rfl
    obtain ⟨y2, h2⟩ := hf 2 _ c rfl rfl
    obtain ⟨y3, h3⟩ := hf 3 _ d rfl rfl
    obtain ⟨y4, h4⟩ := hf 4 _ e rfl rfl
    obtain ⟨y5, h5⟩ := hf 5 _ f rfl rfl
    obtain ⟨y6, h6⟩ := hf 6 _ g rfl rfl
    obtain ⟨z0, rfl, w0⟩ := int_field Try.underlying5 h0
    obtain ⟨z1, rfl, w1⟩ := int_field Try.underlying22 h1
    obtain ⟨z2, rfl, w2⟩ := int_field Try.underlying22 h2
    obtain ⟨z3, rfl, w3⟩ := int_field Try.underlying22 h3
    obtain ⟨z4, rfl, w4⟩ := int_field Try.underlying22 h4
    obtain ⟨z5, rfl, w5⟩ := int_field Try.underlying22 h5
    obtain ⟨P, hP⟩ := bytes_one Try.underlying23 Try.underlying5 (by kernel_rfl) h6
    obtain ⟨n0, rfl, l0⟩ := nat_of_wf (m := 256) rfl (by decide) w0
    obtain ⟨n1, rfl, l1⟩ := nat_of_wf (m := 4294967296) rfl (by decide) w1
    obtain ⟨n2, rfl, l2⟩ := nat_of_wf (m := 4294967296) rfl (by decide) w2
    obtain ⟨n3, rfl, l3⟩ := nat_of_wf (m := 4294967296) rfl (by decide) w3
    obtain ⟨n4, rfl, l4⟩ := nat_of_wf (m := 4294967296) rfl (by decide) w4
    obtain ⟨n5, rfl, l5⟩ := nat_of_wf (m := 4294967296) rfl (by decide) w5
    exact ⟨n0, n1, n2, n3, n4, n5, P, g, rfl, by omega, by omega, by omega, by omega, by omega, by omega, hP⟩
end
end Go.Proofs.Ytlnfolgmjfcinaa.Open
