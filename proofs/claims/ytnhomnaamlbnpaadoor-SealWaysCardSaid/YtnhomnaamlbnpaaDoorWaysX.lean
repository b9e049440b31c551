/- SealWays, from what its arguments read as. By an AI agent. -/
import Derived.Test.YtnhomnaamlbnpaaDoorWaysW
import Derived.Test.YtnhomnaamlbnpaaDoorOpenT
namespace Go.Proofs.YtnhomnaamlbnpaaDoor.Walks
open Go.RowKit Go.Proofs.YtnhomnaamlbnpaaDoor.M Go.Proofs.YtnhomnaamlbnpaaDoor.Sha
theorem sealWaysIn (w : World) (v0 v1 : Value) (l0 : List UInt8) (h0 : Byts w (fun k => k < w.heap.size) v0 l0) (h1 : Open.InTold v1) (ht : Tab w) :
    Calls Tryd.prog 6 #[v0, v1] w fun e w' => e = .returned (.bool true) ∧ Below w.heap.size w w' := by
  obtain ⟨y, s, e, c, x, rfl, hs, he, hc, hx⟩ := h1
  exact sealWays w v0 l0 y s e c x h0 hs he hc hx ht
end Go.Proofs.YtnhomnaamlbnpaaDoor.Walks
