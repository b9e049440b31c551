/- Rows of anything: what a slice of n elements holds; append onto a row of the call's own. By an AI agent. -/
import Derived.Test.YtnhomnaamlbnpaaDoorProg
import Derived.Test.YtnhomnaamlbnpaaDoorM
import Derived.Deep.AppendLies
import Derived.Maps.AppendAt
namespace Go.Proofs.YtnhomnaamlbnpaaDoor.Sl
open Go.RowKit Go.Proofs.YtnhomnaamlbnpaaDoor.M
set_option linter.unusedVariables false

/-- a slice value of n elements of 'size' cells each, all of them 'xs'; they lie in blocks of S -/
def Sl (w : World) (S : Nat → Prop) (size : Nat) (v : Value) (n : Nat) (xs : List Value) : Prop :=
  ∃ (A : Option Addr) (c : Nat), v = .slice A n c ∧ xs.length = n * size ∧ n ≤ c ∧ n ≤ maxLen ∧
    (A = none → n = 0) ∧ ∀ ad, A = some ad → 0 < n → S ad.block ∧ ∀ j u, xs[j]? = some u → w.cell? (ad.add j) = some u
section
variable {w w' : World} {S T : Nat → Prop} {size n : Nat} {v : Value} {xs : List Value}
theorem Sl.same (h : Sl w S size v n xs) (hs : Same S w w') : Sl w' S size v n xs := by
  obtain ⟨A, c, rfl, hl, hnc, hm, h0, hc⟩ := h
  exact ⟨A, c, rfl, hl, hnc, hm, h0, fun ad e hn => ⟨(hc ad e hn).1, fun j b hb => by rw [hs.cell (by rw [block_add]; exact (hc ad e hn).1)]; exact (hc ad e hn).2 j b hb⟩⟩
theorem Sl.sub (h : Sl w S size v n xs) (k : ∀ i, S i → T i) : Sl w T size v n xs := by
  obtain ⟨A, c, rfl, hl, hnc, hm, h0, hc⟩ := h
  exact ⟨A, c, rfl, hl, hnc, hm, h0, fun ad e hn => ⟨k _ (hc ad e hn).1, (hc ad e hn).2⟩⟩
/-- the elements, where there is one -/
theorem Sl.at_ (h : Sl w S size v n xs) (hsz : 0 < size) : ∃ A c, v = .slice A n c ∧ n ≤ c ∧ n ≤ maxLen ∧ ∀ k, k < n → ∃ b off, A = some ⟨b, off, none⟩ ∧ S b ∧ ∀ j u, j < size → xs[k * size + j]? = some u → w.cell? ⟨b, off + (k * size + j), none⟩ = some u := by
  obtain ⟨A, c, rfl, hl, hnc, hm, h0, hc⟩ := h
  refine ⟨A, c, rfl, hnc, hm, fun k hk => ?_⟩
  rcases A with _ | ad
  · have := h0 rfl; omega
  · obtain ⟨hs, hcell⟩ := hc ad rfl (by omega)
    obtain ⟨b, off, spot⟩ := ad
    have hp : 0 < xs.length := by rw [hl]; exact Nat.mul_pos (by omega) hsz
    have hc0 := hcell 0 _ (List.getElem?_eq_getElem hp)
    have hspot : spot = none := by simpa [Addr.add] using World.cell?_spot hc0
    subst hspot
    refine ⟨b, off, rfl, hs, fun j u _ hj => ?_⟩
    have := hcell _ u hj
    rwa [Addr.add_lit] at this
end

section
variable {P : Program} (w : World)
end
end Go.Proofs.YtnhomnaamlbnpaaDoor.Sl
