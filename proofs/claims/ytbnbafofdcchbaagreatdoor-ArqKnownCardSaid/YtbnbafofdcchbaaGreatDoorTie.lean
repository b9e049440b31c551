/-
  DERIVED. GIVEN WITH THE SEED: THE PROGRAM's TIES (one call each: nine closed facts by the kernel) AND EACH ROW's TIE, after the 31st guide's Derived/Test/Toyas{Tie, Card}.lean. No idea stands in it: it is a product of the set-up. Laid BY PROGRAM, IN A SANDBOX (cutbox-door.mjs). By AI agents, Wed Nov 11 2026. No macro, syntax, notation, axiom, sorry.
-/
import Derived.Test.YtbnbafofdcchbaaGreatDoorRows
import Derived.LaidByTextLater
import Derived.SevenTiedAt
import Derived.LaidSub
import Derived.LaidOnce
namespace Go.Proofs.YtbnbafofdcchbaaGreatDoor
open Go
set_option maxRecDepth 100000
theorem seatTie1 : Tryz.prog.laidByTextLater [("longwire/longwireref02.squares", Rows.laid_longwire_longwireref02_squares), ("longwire/longwireref02.cubes", Rows.laid_longwire_longwireref02_cubes), ("longwire/hash.constants", Rows.laid_longwire_hash_constants)] [.data, .widerDeep, .data] true :=
  Program.laidByTextLater_by_one 24 8 65 (by kernel_rfl) (by kernel_rfl) (by kernel_rfl) (by kernel_rfl) (by kernel_rfl) (by kernel_rfl) (fun _ _ => by kernel_rfl)
theorem noOwnUnsafe : Tryz.pinned.checked.prog.headLifts.contains "ownunsafe" = false := by kernel_rfl
theorem tie : Tryz.prog.laidByTextLater [("longwire/longwireref02.squares", Rows.laid_longwire_longwireref02_squares), ("longwire/longwireref02.cubes", Rows.laid_longwire_longwireref02_cubes), ("longwire/hash.constants", Rows.laid_longwire_hash_constants)] [.data, .widerDeep, .data] true :=
  Program.laidByTextLater.sub seatTie1 ["longwire/longwireref02.squares", "longwire/longwireref02.cubes", "longwire/hash.constants"] (by kernel_rfl) (by kernel_rfl)
theorem arqPlays_row_tie : Rows.arqPlaysRow.laidByTextAt .later Tryz.pinned [.data, .widerDeep, .data] true :=
  OpenClaim.laidByTextAt_later rfl rfl tie noOwnUnsafe
theorem tie2 : Tryz.prog.laidByTextLater [("longwire/hash.constants", Rows.laid_longwire_hash_constants)] [.data] true :=
  Program.laidByTextLater.sub seatTie1 ["longwire/hash.constants"] (by kernel_rfl) (by kernel_rfl)
theorem arqOnce_row_tie : Rows.arqOnceRow.laidByTextAt .later Tryz.pinned [.data] true :=
  OpenClaim.laidByTextAt_later rfl rfl tie2 noOwnUnsafe
theorem arqRefuses_row_tie : Rows.arqRefusesRow.laidByTextAt .later Tryz.pinned [.data] true :=
  OpenClaim.laidByTextAt_later rfl rfl tie2 noOwnUnsafe
theorem arqKnown_row_tie : Rows.arqKnownRow.laidByTextAt .later Tryz.pinned [.data] true :=
  OpenClaim.laidByTextAt_later rfl rfl tie2 noOwnUnsafe
theorem arqPlaysUpto_row_tie : Rows.arqPlaysUptoRow.laidByTextAt .later Tryz.pinned [.data, .widerDeep, .data] true :=
  OpenClaim.laidByTextAt_later rfl rfl tie noOwnUnsafe
theorem arqOnceUpto_row_tie : Rows.arqOnceUptoRow.laidByTextAt .later Tryz.pinned [.data] true :=
  OpenClaim.laidByTextAt_later rfl rfl tie2 noOwnUnsafe
theorem arqRefusesUpto_row_tie : Rows.arqRefusesUptoRow.laidByTextAt .later Tryz.pinned [.data] true :=
  OpenClaim.laidByTextAt_later rfl rfl tie2 noOwnUnsafe
theorem arqKnownUpto_row_tie : Rows.arqKnownUptoRow.laidByTextAt .later Tryz.pinned [.data] true :=
  OpenClaim.laidByTextAt_later rfl rfl tie2 noOwnUnsafe
end Go.Proofs.YtbnbafofdcchbaaGreatDoor
