/- For the frames of the laws of layer 2: the laid table; slices of integers that came in. -/
import Derived.Test.YtmbpcjnlniidkaaDoorLawKit
import Derived.Test.YtmbpcjnlniidkaaDoorNatP
import Derived.Test.YtmbpcjnlniidkaaDoorTie
import Derived.Test.YtmbpcjnlniidkaaDoorCards
import Derived.LaidMore
import Derived.Stop.Joined
import Derived.Stop.LaidErr
import Derived.Lib.LaidTab
import Derived.SevenTiedAt
namespace Go.Proofs.YtmbpcjnlniidkaaDoor
open Go Go.ChangeShapes Go.WideShapes Go.RowKit Go.Joins
set_option linter.unusedVariables false

theorem gPow : Tryd.prog.globalNamed "internal/strconv.uint64pow10" = some 0 := by kernel_rfl
theorem tPow : (Tryd.prog.globals[0]?).map (·.type) = some 76 := by kernel_rfl
theorem powData : (Rows.laid_internal_strconv_uint64pow10 : DataW Unit) = Lib.tabData .u64 Lib.pow10Tab := by kernel_rfl

/-- The door's own heap meets the condition. -/
theorem door_met (os : Os) (args : Array Value) : laidMetH Tryd.prog Rows.natFormsRow.laid ((World.doorLaid Tryd.prog 700 os).forCall (fun _ _ => 0) ⟨#[], args, []⟩).memory :=
  laidMetH_of_parts3 (fuel := 8) (laidMet_of_run' 8 (by kernel_rfl) (by kernel_rfl)) (by kernel_rfl) (by kernel_rfl)
theorem tab_of_laid {W : World} (h : laidMetH Tryd.prog Rows.natFormsRow.laid W) : Tab W := by
  rw [MakeChecks.laidMetH_plain _ _ _ (by kernel_rfl)] at h
  have h3 := laidMet.tail (laidMet.tail h)
  rw [powData] at h3
  exact Lib.tabBelow_of_tabIs (Lib.tabIs_of_head gPow tPow Tryd.underlying76 Tryd.underlying61 (by kernel_rfl) (by kernel_rfl) h3)
theorem in_of {W : World} {A : Option Addr} {n c : Nat} {zs : List Int} (h : InInts .i64 W A n c zs) : In W (.slice A n c) zs := by
  obtain ⟨rfl, h2, h3, _, h5⟩ := h
  refine ⟨A, c, rfl, h2, h3, fun i z hz => ?_⟩
  obtain ⟨b, off, hA, hb, hc⟩ := h5 i z hz
  exact ⟨b, off, hA, ⟨Nat.zero_le _, Or.inl rfl⟩, hb, hc⟩
#print axioms tab_of_laid
end Go.Proofs.YtmbpcjnlniidkaaDoor
