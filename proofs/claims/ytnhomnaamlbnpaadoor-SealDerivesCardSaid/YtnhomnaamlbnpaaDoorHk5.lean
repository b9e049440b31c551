/- An own row that a contract hands out, in the interpreter's words; bytes.Clone as a hook. By an AI agent. -/
import Derived.Test.YtnhomnaamlbnpaaDoorHk4
import Derived.Test.YtnhomnaamlbnpaaDoorByc
namespace Go.Proofs.YtnhomnaamlbnpaaDoor.Abs
open Go Go.RowKit Go.Proofs.YtnhomnaamlbnpaaDoor.M
set_option linter.unusedVariables false
theorem own_small {w w' : World} {v : Value} {l : List UInt8} {e : TypeId} (hb : Below w.heap.size w w') (h : w'.ownsRow w.heap.size e 1 v l.length (l.map fun b => Value.int .u8 (b.toNat : Int))) :
    StepOk w (fun _ => none) ⟨.leaf, 1000, []⟩ w (.sslice (1000, 0) l.length l.length false 1) ⟨(PT.leaf : PT AObj).set 1000 (some (.sbytes l e)), 1001, []⟩ v w' := by
  have hget : ∀ x o, ((PT.leaf : PT AObj).set 1000 (some (.sbytes l e))).get x = some o → x = 1000 ∧ o = .sbytes l e := fun x o hx => by
    rw [PT.get_set] at hx
    split at hx
    · rename_i he; cases hx; exact ⟨he, rfl⟩
    · rw [PT.get_leaf] at hx; cases hx
  rcases h.2 with ⟨rfl, hl⟩ | ⟨g, cap, cur, rfl, hbg, hg, hnc, hcm, hsz, htake⟩
  · obtain rfl : l = [] := List.eq_nil_of_length_eq_zero hl
    refine ⟨fun _ => none, VRel.snil (φ := fun _ => none) _ _ _, with_pool (φ := fun _ => none) (WRel.start (next := 1000) (fun _ _ => rfl) (fun _ _ _ _ h => (by cases h))) (fun _ _ _ => rfl) ⟨⟨hb, fun _ _ => rfl, fun x o hx => ?_, fun x y o o' g b b' n n' _ _ h1 => (by cases h1), fun x o hx => ?_⟩, ⟨Phi.le_refl _, hb.size, fun x o g b n _ h1 => (by cases h1), fun g hg _ => hb.block g hg, fun x hx => absurd rfl hx⟩⟩⟩
    · obtain ⟨rfl, rfl⟩ := hget x o hx
      exact .inl ⟨rfl, rfl⟩
    · obtain ⟨rfl, rfl⟩ := hget x o hx
      show 1000 < 1001
      omega
  · let ψ : Phi := fun k => match k with
      | .blk x => if x = 1000 then some (g, 0, cur.size) else none
      | .pool _ _ _ => none
    have hψ : ψ 1000 = some (g, 0, cur.size) := rfl
    refine ⟨ψ, VRel.sslice (φ := ψ) 1000 0 _ _ 1 g 0 cur.size cap false ⟨g, 0, none⟩ rfl (Nat.le_refl _) hnc (fun h => by cases h) (fun _ => by omega) (.inr rfl),
      with_pool (φ := fun _ => none) (WRel.start (next := 1000) (fun _ _ => rfl) (fun _ _ _ _ h => (by cases h))) (fun _ _ _ => rfl) ⟨⟨hb, fun x hx => ?_, fun x o hx => ?_, fun x y o o' g' b b' n n' hx hy _ _ => ?_, fun x o hx => ?_⟩, ⟨fun x t hx => (by cases hx), hb.size, fun x o g' b n hx h1 => ?_, fun g' hg' _ => hb.block g' hg', fun x _ _ y hy => absurd rfl hy⟩⟩⟩
    · have hx : 1001 ≤ x := hx
      show (if x = 1000 then _ else _) = _
      rw [if_neg (by omega)]
    · obtain ⟨rfl, rfl⟩ := hget x o hx
      refine .inr ⟨g, 0, cur.size, _, rfl, hbg, hg, sbytes_cells rfl (by omega) ?_ (.inl rfl)⟩
      rw [List.drop_zero]
      have : l.length * 1 = l.length := Nat.mul_one _
      rw [this] at htake
      exact htake
    · obtain ⟨rfl, _⟩ := hget x o hx
      obtain ⟨rfl, _⟩ := hget y o' hy
      rfl
    · obtain ⟨rfl, rfl⟩ := hget x o hx
      show 1000 < 1001
      omega
    · obtain ⟨rfl, rfl⟩ := hget x o hx
      have h1 : some (g, 0, cur.size) = some (g', b, n) := h1
      cases h1
      exact .inl hbg
/-- an own row of bytes, as a step from any state -/
theorem own_ok {w0 w w' : World} {φ : Phi} {st : St} {v : Value} {l : List UInt8} {e : TypeId} (hw : WRel w0 φ st.heap st.next w) (hb : Below w.heap.size w w') (h : w'.ownsRow w.heap.size e 1 v l.length (l.map fun b => Value.int .u8 (b.toNat : Int))) :
    StepOk w0 φ st w (.sslice (st.next, 0) l.length l.length false 1) ⟨st.heap.set st.next (some (.sbytes l e)), Nat.succ st.next, st.log⟩ v w' := by
  have := lift_ok (r := .sslice (5000, 0) l.length l.length false 1) (os := [.sbytes l e]) hw (own_small hb h) ⟨fun _ _ => rfl, fun _ _ _ _ h => (by cases h)⟩ (fun g b L t h => by cases h) ?_ rfl rfl
  · have e : shV st.next (.sslice (5000, 0) l.length l.length false 1) = .sslice (st.next, 0) l.length l.length false 1 := rfl
    rw [e] at this
    exact this
  · refine ⟨⟨rfl, rfl, rfl⟩, trivial, trivial, rfl, trivial⟩
end Go.Proofs.YtnhomnaamlbnpaaDoor.Abs
