/- What every statement of the layer ends with: the document's examples. By an AI agent. -/
import Derived.Test.YtbpkpkellnldmaaDone
import Derived.Test.YtbpkpkellnldmaaCrc
import Derived.Lib.SlBytesConst
namespace Go.Proofs.Ytbpkpkellnldmaa.Wr
open Go.RowKit Go.Proofs.Ytbpkpkellnldmaa.M Go.Proofs.Ytbpkpkellnldmaa.Byt
set_option linter.unusedVariables false

theorem isW_new (w : World) (X : Nat → Prop) : IsW (w.alloc (.cells #[.pointer none, .int .i64 0, .bool false] 25)) w.heap.size X [] :=
  ⟨_, Blk.new w _ _, .nil⟩

set_option maxHeartbeats 1600000 in
theorem wakes_any (w : World) :
    Calls Try.prog 14 #[] w fun e w' => e = .returned (.bool true) ∧ Below w.heap.size w w' := by
  have kc := fun (w : World) (C : Array Value) (n c : Nat) => Lib.run_convert_bytes_const (P := Try.prog) w 27 5 C n c Try.underlying27 Try.underlying5
  go_enter Try.func14, Try.ntmps14
  go_wp2_with fail
  refine (two_any w.heap.size (fun _ => False) [] 513 _ (fun _ _ h => h) (isW_new w _) (by omega) (by simp)).mono ?_
  rintro e w1 ⟨rfl, h1, g1⟩
  go_wp2_with fail
  refine (text_any w.heap.size _ _ _ w1 (fun _ _ h => h) h1 (by decide) (by decide)).mono ?_
  rintro e w2 ⟨rfl, h2, g2⟩
  go_wp2_with fail
  refine (done_any w.heap.size _ _ w2 h2 (by decide)).mono ?_
  rintro e w3 ⟨he, hK, hb3⟩
  rw [show ([] ++ be2 513 ++ (be2 (ByteArray.mk #[97, 98]).size ++ [97, 98]) : List UInt8) = [2, 1, 0, 2, 97, 98] from by decide] at he hK
  subst he
  have hB := byts_of_blk (lo := w2.heap.size) hK rfl (by simp [maxLen]) (Nat.le_refl _)
  go_wp2_with fail
  refine (equal_any _ _ _ [2, 1, 0, 2, 97, 98] _ _ _ (hB.same ((same_alloc w3 _).sub fun i hi => hi.2)) (byts_new w3 _ _ _ _ (by simp [maxLen]) (by rfl))).mono ?_
  rintro e w4 ⟨rfl, hw4⟩
  have hb4 : Below w3.heap.size w3 w4 := by rw [← hw4]; exact (Below.refl _ _).alloc (Nat.le_refl _) _
  clear hw4
  rw [show (([2, 1, 0, 2, 97, 98] : List UInt8) == [2, 1, 0, 2, 97, 98]) = true from by decide]
  go_wp2_with fail
  refine (Crc.crc_any _ [49, 50, 51, 52, 53, 54, 55, 56, 57] _ _ (byts_new w4 _ _ _ _ (by simp [maxLen]) (by rfl))).mono ?_
  rintro e w5 ⟨rfl, hw5⟩
  have hb5 : Below w4.heap.size w4 w5 := by rw [← hw5]; exact (Below.refl _ _).alloc (Nat.le_refl _) _
  clear hw5
  rw [show Crc.crc [49, 50, 51, 52, 53, 54, 55, 56, 57] = 3421780262 from by decide +kernel]
  go_wp2
  go_ret
  refine ⟨rfl, ?_⟩
  have z3 := hb3.size
  have z4 := hb4.size
  have a1 : Below w.heap.size w w2 := below_grown (below_grown ((Below.refl _ w).alloc (Nat.le_refl _) _) g1 (Nat.le_refl _)) g2 (Nat.le_refl _)
  have z2 := a1.size
  exact ((a1.trans (hb3.mono (by omega))).trans (hb4.mono (by omega))).trans (hb5.mono (by omega))
end Go.Proofs.Ytbpkpkellnldmaa.Wr
