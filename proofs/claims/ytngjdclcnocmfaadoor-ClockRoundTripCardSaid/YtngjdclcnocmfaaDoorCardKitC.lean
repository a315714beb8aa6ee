/- For the frames of the laws of layer 5: the laid tables; spans, and slices of integers, that came in. -/
import Derived.Test.YtngjdclcnocmfaaDoorLawKit
import Derived.Test.YtngjdclcnocmfaaDoorClockN
import Derived.Test.YtngjdclcnocmfaaDoorTie
import Derived.Test.YtngjdclcnocmfaaDoorCards
import Derived.LaidMore
import Derived.Stop.Joined
import Derived.Stop.LaidErr
import Derived.Lib.LaidTab
import Derived.SevenTiedAt
namespace Go.Proofs.YtngjdclcnocmfaaDoor
open Go Go.ChangeShapes Go.WideShapes Go.RowKit Go.Joins
set_option linter.unusedVariables false
set_option maxRecDepth 100000

theorem gPow : Tryd.prog.globalNamed "internal/strconv.uint64pow10" = some 1 := by kernel_rfl
theorem tPow : (Tryd.prog.globals[1]?).map (·.type) = some 64 := by kernel_rfl
theorem powData : (Rows.laid_internal_strconv_uint64pow10 : DataW Unit) = Lib.tabData .u64 Lib.pow10Tab := by kernel_rfl
theorem tUni : (Tryd.prog.globals[0]?).map (·.type) = some 49 := by kernel_rfl
theorem uniData : (Rows.laid_papermill_clock_units : DataW Unit) = Lib.tabData .i64 [86400, 3600, 60, 1] := by kernel_rfl

/-- The door's own heap meets the condition. -/
theorem door_met (os : Os) (args : Array Value) : laidMetH Tryd.prog Rows.clockShiftsRow.laid ((World.doorLaid Tryd.prog 700 os).forCall (fun _ _ => 0) ⟨#[], args, []⟩).memory :=
  laidMetH_of_parts3 (fuel := 8) (laidMet_of_run' 8 (by kernel_rfl) (by kernel_rfl)) (by kernel_rfl) (by kernel_rfl)
theorem tab_of_laid {W : World} (h : laidMetH Tryd.prog Rows.clockShiftsRow.laid W) : Clock.Laid W := by
  rw [MakeChecks.laidMetH_plain _ _ _ (by kernel_rfl)] at h
  have h3 := laidMet.tail (laidMet.tail h)
  have h4 := laidMet.tail h3
  rw [powData] at h3
  rw [uniData] at h4
  exact ⟨Lib.tabBelow_of_tabIs (Lib.tabIs_of_head gPow tPow Tryd.underlying64 Tryd.underlying57 (by kernel_rfl) (by kernel_rfl) h3),
    Lib.tabBelow_of_tabIs (Lib.tabIs_of_head Clock.gUni tUni Tryd.underlying49 Tryd.underlying3 (by kernel_rfl) (by kernel_rfl) h4)⟩
theorem its_of {W : World} {A : Option Addr} {n c : Nat} {zs : List Int} (h : InInts .i64 W A n c zs) : Clock.Its W A zs := h.2.2.2.2
theorem its_max {W : World} {A : Option Addr} {n c : Nat} {zs : List Int} (h : InInts .i64 W A n c zs) : zs.length ≤ 9223372036854775807 := by
  obtain ⟨rfl, h2, h3, _⟩ := h
  unfold maxLen at h3; omega
section
variable {H : Type} {enc : TypeId × Value → H} {w : World} {held : Bool}
/-- A span that came in. -/
theorem open_span {r : Reach} {b0 : Nat} {v : Value} {d : DataW H} {p : List MemPlace} (hv : Value.okWide Tryd.prog w r b0 36 v) (h : DataW.Trod enc Tryd.prog w 0 (fun _ => true) held 36 v d p) :
    ∃ a b : Int, v = .agg #[.int .i64 a, .int .i64 b] := by
  obtain ⟨v0, v1, y0, y1, n, rfl, _, _, h0, h1⟩ := open_agg2 Tryd.underlying36 (by kernel_rfl) (by kernel_rfl) hv h
  obtain ⟨x0, f0, _, _⟩ := DataW.trod_int Tryd.underlying3 h0
  obtain ⟨x1, f1, _, _⟩ := DataW.trod_int Tryd.underlying3 h1
  simp at f0 f1
  subst f0 f1
  exact ⟨x0, x1, rfl⟩
end
#print axioms tab_of_laid
#print axioms open_span
end Go.Proofs.YtngjdclcnocmfaaDoor
