/- How a span, a row of uint32s and two uint32s come in by value. By an AI agent. -/
import Derived.Test.YtghhdjhobidbcaaOpen
import Derived.Test.YtghhdjhobidbcaaHk4
import Derived.OpenShut
namespace Go.Proofs.Ytghhdjhobidbcaa.Open
open Go.ChangeShapes Go.WideShapes Go.ChangeAt Go.RowKit Go.Deep Go.Proofs.Ytghhdjhobidbcaa.M Go.Proofs.Ytghhdjhobidbcaa.Abs
set_option linter.unusedVariables false
set_option maxRecDepth 20000
section
variable {H : Type} {enc : TypeId × Value → H} {W : World} {base : Nat} {v : Value} {d : DataW H} {p : List MemPlace} {t e : TypeId}
theorem int_cell {k : IntKind} {n : Nat} {u : Value} {y : DataW H × List MemPlace} (ht : Try.prog.underlying t = some (.int k)) (h : DataW.trod enc Try.prog W 0 (fun _ => true) true n t [u] = some y) : ∃ z, u = .int k z ∧ (Lit.int k z).wf = true := by
  obtain ⟨z, hz, _, hw⟩ := DataW.trod_int ht h
  exact ⟨z, by simpa using hz, hw⟩
theorem nat_of_wf {k : IntKind} {m : Nat} {z : Int} (hk : k.signed = false) (hm : (2 : Int) ^ k.bits = (m : Int)) (h : (Lit.int k z).wf = true) : ∃ n : Nat, z = (n : Int) ∧ n < m := by
  simp [Lit.wf, IntKind.min, IntKind.max, hk] at h
  obtain ⟨n, rfl⟩ := Int.eq_ofNat_of_zero_le h.1
  exact ⟨n, rfl, by have := h.2; rw [hm] at this; omega⟩
def InTwo (v : Value) : Prop := ∃ a b : Nat, v = .agg #[.int .u32 a, .int .u32 b] ∧ a < 4294967296 ∧ b < 4294967296
theorem two_cells {cs : Array Value} (hs : cs.size = 2) (hf : ∀ (j : Nat) (u : Value), cs[j]? = some u → ∃ n y, DataW.trod enc Try.prog W 0 (fun _ => true) true n 22 [u] = some y) : InTwo (.agg cs) := by
  obtain ⟨l, rfl⟩ : ∃ l : List Value, cs = l.toArray := ⟨cs.toList, by simp⟩
  have hl : l.length = 2 := by simpa using hs
  match l, hl with
  | [a, b], _ =>
    obtain ⟨n0, y0, h0⟩ := hf 0 a rfl
    obtain ⟨n1, y1, h1⟩ := hf 1 b rfl
    obtain ⟨z0, rfl, w0⟩ := int_cell Try.underlying22 h0
    obtain ⟨z1, rfl, w1⟩ := int_cell Try.underlying22 h1
    obtain ⟨n0, rfl, l0⟩ := nat_of_wf (m := 4294967296) rfl (by decide) w0
    obtain ⟨n1, rfl, l1⟩ := nat_of_wf (m := 4294967296) rfl (by decide) w1
    exact ⟨n0, n1, rfl, l0, l1⟩
theorem cell_of {cs : Array Value} {j : Nat} {u : Value} (hu : cs[j]? = some u) : (cs.toList.drop j).take 1 = [u] := by
  obtain ⟨hj, he⟩ := Array.getElem?_eq_some_iff.1 hu
  have hcl : j < cs.toList.length := by simpa using hj
  rw [List.drop_eq_getElem_cons hcl]
  have : cs.toList[j] = u := by simpa using he
  rw [this]
  rfl
theorem open_span (hval : Value.okWide Try.prog W .any base 40 v) (h : DataW.Trod enc Try.prog W 0 (fun _ => true) true 40 v d p) : InTwo v := by
  unfold Value.okWide at hval
  rw [Try.underlying40] at hval
  obtain ⟨cs, rfl, hs, _⟩ := hval
  obtain ⟨fuel, hf⟩ := h
  obtain ⟨ys, n, _, _, hlen, hyl, hy⟩ := DataW.trod_struct Try.underlying40 hf
  have hs2 : cs.size = 2 := hs
  refine two_cells (H := H) (enc := enc) (W := W) hs2 fun j u hu => ?_
  have hj : j < 2 := by have := (Array.getElem?_eq_some_iff.1 hu).1; omega
  match j, hj with
  | 0, _ =>
    have h1 := hy 0 _ rfl
    have h2 : DataW.trod enc Try.prog W 0 (fun _ => true) true n 22 [u] = ys[0]? := by rw [← cell_of hu]; exact h1
    exact ⟨n, ys[0]'(by rw [hyl]; decide), by rw [h2, List.getElem?_eq_getElem]⟩
  | 1, _ =>
    have h1 := hy 1 _ rfl
    have h2 : DataW.trod enc Try.prog W 0 (fun _ => true) true n 22 [u] = ys[1]? := by rw [← cell_of hu]; exact h1
    exact ⟨n, ys[1]'(by rw [hyl]; decide), by rw [h2, List.getElem?_eq_getElem]⟩
theorem open_pair (hval : Value.okWide Try.prog W .any base 42 v) (h : DataW.Trod enc Try.prog W 0 (fun _ => true) true 42 v d p) : InTwo v := by
  unfold Value.okWide at hval
  rw [Try.underlying42] at hval
  obtain ⟨cs, rfl, hs, _⟩ := hval
  obtain ⟨fuel, hf⟩ := h
  obtain ⟨ys, n, _, _, hlen, hyl, hy⟩ := DataW.trod_array Try.underlying42 hf
  have hs2 : cs.size = 2 := hs
  refine two_cells (H := H) (enc := enc) (W := W) hs2 fun j u hu => ?_
  have hj : j < 2 := by have := (Array.getElem?_eq_some_iff.1 hu).1; omega
  match j, hj with
  | 0, _ =>
    have h1 := hy 0 (by decide)
    have h2 : DataW.trod enc Try.prog W 0 (fun _ => true) true n 22 [u] = ys[0]? := by rw [← cell_of hu]; exact h1
    exact ⟨n, ys[0]'(by rw [hyl]; decide), by rw [h2, List.getElem?_eq_getElem]⟩
  | 1, _ =>
    have h1 := hy 1 (by decide)
    have h2 : DataW.trod enc Try.prog W 0 (fun _ => true) true n 22 [u] = ys[1]? := by rw [← cell_of hu]; exact h1
    exact ⟨n, ys[1]'(by rw [hyl]; decide), by rw [h2, List.getElem?_eq_getElem]⟩
/-- a row of uint32s -/
def InInts (W : World) (v : Value) : Prop := ∃ l, Ints W .u32 v l ∧ l.length ≤ 9223372036854775807
theorem in_of_wf {z : Int} (h : (Lit.int .u32 z).wf = true) : inR .u32 z := by
  simp [Lit.wf, IntKind.min, IntKind.max, IntKind.signed, IntKind.bits] at h
  rw [in_u32]
  omega
theorem open_u32s (hval : Value.okWide Try.prog W .any base 41 v) (h : DataW.Trod enc Try.prog W 0 (fun _ => true) true 41 v d p) : InInts W v := by
  obtain ⟨a0, len, cap, rfl⟩ := okWide_slice Try.underlying41 hval
  obtain ⟨fuel, hf⟩ := h
  have hf : DataW.trod enc Try.prog W 0 (fun _ => true) true fuel 41 [.slice a0 len cap] = some (d, p) := hf
  rcases open_ints Try.underlying41 Try.underlying22 (by kernel_rfl) hf with ⟨hcs, _⟩ | ⟨y, l, c, zs, hcs, _, hl, hm, hz, _, hcell, hwz⟩
  · simp at hcs
    obtain ⟨rfl, rfl, rfl⟩ := hcs
    exact ⟨[], Ints.nil_ _ _ _, Nat.zero_le _⟩
  · simp at hcs
    obtain ⟨rfl, rfl, rfl⟩ := hcs
    have hz' : len ≤ zs.length := by rw [hz]; split <;> omega
    have hml : len ≤ 9223372036854775807 := by unfold maxLen at hm; omega
    refine ⟨zs.take len, ⟨_, len, cap, rfl, by rw [List.length_take]; omega, hl, (fun h0 => by cases h0), fun z hzm => in_of_wf (hwz z (List.mem_of_mem_take hzm)), ?_⟩, by rw [List.length_take]; omega⟩
    intro ad h1 hp
    cases h1
    have hat : ∀ j x, (zs.take len)[j]? = some x → W.cell? (y.add j) = some (.int .u32 x) := by
      intro j x hj
      have hlt : j < len := by
        have := (List.getElem?_eq_some_iff.1 hj).1
        rw [List.length_take] at this; omega
      have hj' : zs[j]? = some x := by rwa [List.getElem?_take_of_lt hlt] at hj
      have := hcell j (by omega)
      rwa [List.getD_eq_getElem?_getD, hj', Option.getD_some] at this
    have h00 := hat 0 _ (List.getElem?_eq_getElem (by rw [List.length_take]; omega))
    obtain ⟨g, off, spot⟩ := y
    have hspot : spot = none := by simpa [Addr.add] using World.cell?_spot h00
    subst hspot
    have hg : ∃ cs t fz, W.heap[g]? = some (.cells cs t fz) := by
      rw [add_lit] at h00
      unfold World.cell? at h00
      simp only at h00
      split at h00
      · exact ⟨_, _, _, ‹_›⟩
      all_goals first | (cases h00; done) | (simp at h00; done)
    obtain ⟨cs, t', fz, hg⟩ := hg
    refine ⟨g, off, rfl, cs, t', fz, hg, fun j x hj => ?_⟩
    have := hat j x hj
    rw [add_lit] at this
    unfold World.cell? at this
    simp only [hg] at this
    simpa using this
end
end Go.Proofs.Ytghhdjhobidbcaa.Open
