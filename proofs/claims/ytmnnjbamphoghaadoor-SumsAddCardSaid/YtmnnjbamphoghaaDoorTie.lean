/-
  DERIVED. GIVEN WITH THE SEED: THE PROGRAM's TIES (one call each: nine closed facts by the kernel) AND EACH ROW's TIE, after the 31st guide's Derived/Test/Toyas{Tie, Card}.lean. No idea stands in it: it is a product of the set-up. Laid BY PROGRAM, IN A SANDBOX (cutbox-door.mjs). By AI agents, Wed Nov 11 2026. No macro, syntax, notation, axiom, sorry.
-/
import Derived.Test.YtmnnjbamphoghaaDoorRows
import Derived.LaidByTextLater
import Derived.SevenTiedAt
import Derived.LaidSub
import Derived.LaidOnce
namespace Go.Proofs.YtmnnjbamphoghaaDoor
open Go
set_option maxRecDepth 100000
theorem seatTie1 : Tryd.prog.laidByTextLater [("jetsam/sums.eight", Rows.laid_jetsam_sums_eight), ("jetsam/sums.sixteen", Rows.laid_jetsam_sums_sixteen), ("jetsam/sums.higher8", Rows.laid_jetsam_sums_higher8), ("jetsam/sums.lower8", Rows.laid_jetsam_sums_lower8), ("jetsam/sums.higher16", Rows.laid_jetsam_sums_higher16), ("jetsam/sums.lower16", Rows.laid_jetsam_sums_lower16)] [.wider, .wider, .data, .data, .data, .data] true :=
  Program.laidByTextLater_by_one 39 8 17 (by kernel_rfl) (by kernel_rfl) (by kernel_rfl) (by kernel_rfl) (by kernel_rfl) (by kernel_rfl) (fun _ _ => by kernel_rfl)
theorem noOwnUnsafe : Tryd.pinned.checked.prog.headLifts.contains "ownunsafe" = false := by kernel_rfl
theorem tie : Tryd.prog.laidByTextLater [("jetsam/sums.eight", Rows.laid_jetsam_sums_eight), ("jetsam/sums.sixteen", Rows.laid_jetsam_sums_sixteen), ("jetsam/sums.higher8", Rows.laid_jetsam_sums_higher8), ("jetsam/sums.lower8", Rows.laid_jetsam_sums_lower8), ("jetsam/sums.higher16", Rows.laid_jetsam_sums_higher16), ("jetsam/sums.lower16", Rows.laid_jetsam_sums_lower16)] [.wider, .wider, .data, .data, .data, .data] true :=
  Program.laidByTextLater.sub seatTie1 ["jetsam/sums.eight", "jetsam/sums.sixteen", "jetsam/sums.higher8", "jetsam/sums.lower8", "jetsam/sums.higher16", "jetsam/sums.lower16"] (by kernel_rfl) (by kernel_rfl)
theorem sumsTell_row_tie : Rows.sumsTellRow.laidByTextAt .later Tryd.pinned [.wider, .wider, .data, .data, .data, .data] true :=
  OpenClaim.laidByTextAt_later rfl rfl tie noOwnUnsafe
theorem sumsShift_row_tie : Rows.sumsShiftRow.laidByTextAt .later Tryd.pinned [.wider, .wider, .data, .data, .data, .data] true :=
  OpenClaim.laidByTextAt_later rfl rfl tie noOwnUnsafe
theorem sumsJoin_row_tie : Rows.sumsJoinRow.laidByTextAt .later Tryd.pinned [.wider, .wider, .data, .data, .data, .data] true :=
  OpenClaim.laidByTextAt_later rfl rfl tie noOwnUnsafe
theorem sumsSee_row_tie : Rows.sumsSeeRow.laidByTextAt .later Tryd.pinned [.wider, .wider, .data, .data, .data, .data] true :=
  OpenClaim.laidByTextAt_later rfl rfl tie noOwnUnsafe
theorem sumsMeter_row_tie : Rows.sumsMeterRow.laidByTextAt .later Tryd.pinned [.wider, .wider, .data, .data, .data, .data] true :=
  OpenClaim.laidByTextAt_later rfl rfl tie noOwnUnsafe
theorem sumsAdd_row_tie : Rows.sumsAddRow.laidByTextAt .later Tryd.pinned [.wider, .wider, .data, .data, .data, .data] true :=
  OpenClaim.laidByTextAt_later rfl rfl tie noOwnUnsafe
theorem sumsTellUpto_row_tie : Rows.sumsTellUptoRow.laidByTextAt .later Tryd.pinned [.wider, .wider, .data, .data, .data, .data] true :=
  OpenClaim.laidByTextAt_later rfl rfl tie noOwnUnsafe
theorem sumsShiftUpto_row_tie : Rows.sumsShiftUptoRow.laidByTextAt .later Tryd.pinned [.wider, .wider, .data, .data, .data, .data] true :=
  OpenClaim.laidByTextAt_later rfl rfl tie noOwnUnsafe
theorem sumsJoinUpto_row_tie : Rows.sumsJoinUptoRow.laidByTextAt .later Tryd.pinned [.wider, .wider, .data, .data, .data, .data] true :=
  OpenClaim.laidByTextAt_later rfl rfl tie noOwnUnsafe
theorem sumsSeeUpto_row_tie : Rows.sumsSeeUptoRow.laidByTextAt .later Tryd.pinned [.wider, .wider, .data, .data, .data, .data] true :=
  OpenClaim.laidByTextAt_later rfl rfl tie noOwnUnsafe
theorem sumsMeterUpto_row_tie : Rows.sumsMeterUptoRow.laidByTextAt .later Tryd.pinned [.wider, .wider, .data, .data, .data, .data] true :=
  OpenClaim.laidByTextAt_later rfl rfl tie noOwnUnsafe
theorem sumsAddUpto_row_tie : Rows.sumsAddUptoRow.laidByTextAt .later Tryd.pinned [.wider, .wider, .data, .data, .data, .data] true :=
  OpenClaim.laidByTextAt_later rfl rfl tie noOwnUnsafe
end Go.Proofs.YtmnnjbamphoghaaDoor
