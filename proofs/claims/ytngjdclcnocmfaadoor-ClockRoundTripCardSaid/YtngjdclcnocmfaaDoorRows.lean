/-
  NARROWER THAN 'FOR EVERY INPUT', by the rows' own cells (each row's printed sentence says how): ClockShifts: laid · ClockForms: laid · ClockCrews: laid · ClockSteps: laid · ClockNexts: laid · ClockParts: laid · ClockRoundTrip: laid · ClockAdds: laid.
  DERIVED. THE GIVEN ROWS OF THIS SEAT. 8 by the template 'for every input the law returns true; each argument reads behind the call as it read before'; 0 by the template 'total and deterministic' (their statements: YtngjdclcnocmfaaDoorTotals.lean).
  GIVEN WITH THE SEED: the statements are not yours to turn. If you find one false, say at which input.
  Laid BY PROGRAM, IN A SANDBOX (cutbox-rows.mjs): the forced cells as the released guide's own fill.sh prints them over the translation 1fefaef3b1574b60… (all of the seat's roots in one cut). By AI agents, Wed Nov 11 2026. No macro, syntax, notation, axiom, sorry.
-/
import Derived.Test.YtngjdclcnocmfaaDoorChecked
import GoSem.Claim
import GoSem.ClaimJoined
import GoSem.ClaimMapViews
import Derived.JoinedTies
import Derived.KernelRfl
namespace Go.Proofs.YtngjdclcnocmfaaDoor
/- THE CELL 'sum', in the pinned program and in every row, IS THE sha256 OF THE DUMP (.gsa) THAT YtngjdclcnocmfaaDoorProg.lean LOADS. Nothing in Lean hashes anything: it is a label: what it is worth is what the hold of that sum in a sandbox is worth. -/
noncomputable def Tryd.pinned : Pinned := { name := "ytngjdclcnocmfaadoor", sum := "1fefaef3b1574b6065e106651596b32b6771135e214ddd1b54007d3a1c765c3d", checked := Tryd.checked }
namespace Rows
def none {H : Type} : Left H := { results := [], args := [] }

/- WHAT THE LISTED PACKAGE-LEVEL VARIABLES READ AS WHEN THE CALL BEGINS. Each datum BY PROGRAM (the guide's laid-datum.mjs) off the statement by which the dump's own 'gosem.cut.vars' lays the variable. In a bare row this is a premise. The card (YtngjdclcnocmfaaDoorCards.lean) ties it to the program's text. -/
def laid_math_bits_deBruijn32tab {H : Type} : DataW H := .agg [.lit (.int .u8 0), .lit (.int .u8 1), .lit (.int .u8 28), .lit (.int .u8 2), .lit (.int .u8 29), .lit (.int .u8 14), .lit (.int .u8 24), .lit (.int .u8 3), .lit (.int .u8 30), .lit (.int .u8 22), .lit (.int .u8 20), .lit (.int .u8 15), .lit (.int .u8 25), .lit (.int .u8 17), .lit (.int .u8 4), .lit (.int .u8 8), .lit (.int .u8 31), .lit (.int .u8 27), .lit (.int .u8 13), .lit (.int .u8 23), .lit (.int .u8 21), .lit (.int .u8 19), .lit (.int .u8 16), .lit (.int .u8 7), .lit (.int .u8 26), .lit (.int .u8 12), .lit (.int .u8 18), .lit (.int .u8 6), .lit (.int .u8 11), .lit (.int .u8 5), .lit (.int .u8 10), .lit (.int .u8 9)]
def laid_math_bits_deBruijn64tab {H : Type} : DataW H := .agg [.lit (.int .u8 0), .lit (.int .u8 1), .lit (.int .u8 56), .lit (.int .u8 2), .lit (.int .u8 57), .lit (.int .u8 49), .lit (.int .u8 28), .lit (.int .u8 3), .lit (.int .u8 61), .lit (.int .u8 58), .lit (.int .u8 42), .lit (.int .u8 50), .lit (.int .u8 38), .lit (.int .u8 29), .lit (.int .u8 17), .lit (.int .u8 4), .lit (.int .u8 62), .lit (.int .u8 47), .lit (.int .u8 59), .lit (.int .u8 36), .lit (.int .u8 45), .lit (.int .u8 43), .lit (.int .u8 51), .lit (.int .u8 22), .lit (.int .u8 53), .lit (.int .u8 39), .lit (.int .u8 33), .lit (.int .u8 30), .lit (.int .u8 24), .lit (.int .u8 18), .lit (.int .u8 12), .lit (.int .u8 5), .lit (.int .u8 63), .lit (.int .u8 55), .lit (.int .u8 48), .lit (.int .u8 27), .lit (.int .u8 60), .lit (.int .u8 41), .lit (.int .u8 37), .lit (.int .u8 16), .lit (.int .u8 46), .lit (.int .u8 35), .lit (.int .u8 44), .lit (.int .u8 21), .lit (.int .u8 52), .lit (.int .u8 32), .lit (.int .u8 23), .lit (.int .u8 11), .lit (.int .u8 54), .lit (.int .u8 26), .lit (.int .u8 40), .lit (.int .u8 15), .lit (.int .u8 34), .lit (.int .u8 20), .lit (.int .u8 31), .lit (.int .u8 10), .lit (.int .u8 25), .lit (.int .u8 14), .lit (.int .u8 19), .lit (.int .u8 9), .lit (.int .u8 13), .lit (.int .u8 8), .lit (.int .u8 7), .lit (.int .u8 6)]
def laid_internal_strconv_uint64pow10 {H : Type} : DataW H := .agg [.lit (.int .u64 1), .lit (.int .u64 10), .lit (.int .u64 100), .lit (.int .u64 1000), .lit (.int .u64 10000), .lit (.int .u64 100000), .lit (.int .u64 1000000), .lit (.int .u64 10000000), .lit (.int .u64 100000000), .lit (.int .u64 1000000000), .lit (.int .u64 10000000000), .lit (.int .u64 100000000000), .lit (.int .u64 1000000000000), .lit (.int .u64 10000000000000), .lit (.int .u64 100000000000000), .lit (.int .u64 1000000000000000), .lit (.int .u64 10000000000000000), .lit (.int .u64 100000000000000000), .lit (.int .u64 1000000000000000000), .lit (.int .u64 10000000000000000000)]
def laid_papermill_clock_units {H : Type} : DataW H := .agg [.lit (.int .i64 86400), .lit (.int .i64 3600), .lit (.int .i64 60), .lit (.int .i64 1)]

/-- 'papermilllaw05.ClockShifts': WHATEVER THE INPUT: true; the input reads as it did. -/
def clockShiftsSpec : ChangeSpec := { name := "clockShifts", fn := fun _ => fun
  | [d] => { results := [.lit (.bool true)], args := [d] }
  | _ => none }
def clockShiftsRow : OpenClaim := { program := "ytngjdclcnocmfaadoor", sum := "1fefaef3b1574b6065e106651596b32b6771135e214ddd1b54007d3a1c765c3d", func := "papermill/papermilllaw05.ClockShifts", spec := "clockShifts", named := ["papermill/clock.units", "internal/strconv.uint64pow10", "math/bits.deBruijn32tab", "math/bits.deBruijn64tab"], apart := false, laid := [("math/bits.deBruijn32tab", laid_math_bits_deBruijn32tab), ("math/bits.deBruijn64tab", laid_math_bits_deBruijn64tab), ("internal/strconv.uint64pow10", laid_internal_strconv_uint64pow10), ("papermill/clock.units", laid_papermill_clock_units)] }
def ClockShiftsSaid : Prop := clockShiftsRow.holds Tryd.pinned (OpenSpec.ofChange clockShiftsSpec)

/-- ITS FALSE NEIGHBOUR: 'it returns false'. Refute it at one input. -/
def clockShiftsWrong : ChangeSpec := { name := "clockShifts", fn := fun _ => fun
  | [d] => { results := [.lit (.bool false)], args := [d] }
  | _ => none }
def ClockShiftsWrongFalsely : Prop := clockShiftsRow.holds Tryd.pinned (OpenSpec.ofChange clockShiftsWrong)

/-- 'papermilllaw05.ClockForms': WHATEVER THE INPUT: true; the input reads as it did. -/
def clockFormsSpec : ChangeSpec := { name := "clockForms", fn := fun _ => fun
  | [d1, d2] => { results := [.lit (.bool true)], args := [d1, d2] }
  | _ => none }
def clockFormsRow : OpenClaim := { program := "ytngjdclcnocmfaadoor", sum := "1fefaef3b1574b6065e106651596b32b6771135e214ddd1b54007d3a1c765c3d", func := "papermill/papermilllaw05.ClockForms", spec := "clockForms", named := ["papermill/clock.units", "internal/strconv.uint64pow10", "math/bits.deBruijn32tab", "math/bits.deBruijn64tab"], apart := false, laid := [("math/bits.deBruijn32tab", laid_math_bits_deBruijn32tab), ("math/bits.deBruijn64tab", laid_math_bits_deBruijn64tab), ("internal/strconv.uint64pow10", laid_internal_strconv_uint64pow10), ("papermill/clock.units", laid_papermill_clock_units)] }
def ClockFormsSaid : Prop := clockFormsRow.holds Tryd.pinned (OpenSpec.ofChange clockFormsSpec)

/-- ITS FALSE NEIGHBOUR: 'it returns false'. Refute it at one input. -/
def clockFormsWrong : ChangeSpec := { name := "clockForms", fn := fun _ => fun
  | [d1, d2] => { results := [.lit (.bool false)], args := [d1, d2] }
  | _ => none }
def ClockFormsWrongFalsely : Prop := clockFormsRow.holds Tryd.pinned (OpenSpec.ofChange clockFormsWrong)

/-- 'papermilllaw05.ClockCrews': WHATEVER THE INPUT: true; the input reads as it did. -/
def clockCrewsSpec : ChangeSpec := { name := "clockCrews", fn := fun _ => fun
  | [d1, d2] => { results := [.lit (.bool true)], args := [d1, d2] }
  | _ => none }
def clockCrewsRow : OpenClaim := { program := "ytngjdclcnocmfaadoor", sum := "1fefaef3b1574b6065e106651596b32b6771135e214ddd1b54007d3a1c765c3d", func := "papermill/papermilllaw05.ClockCrews", spec := "clockCrews", named := ["papermill/clock.units", "internal/strconv.uint64pow10", "math/bits.deBruijn32tab", "math/bits.deBruijn64tab"], apart := false, laid := [("math/bits.deBruijn32tab", laid_math_bits_deBruijn32tab), ("math/bits.deBruijn64tab", laid_math_bits_deBruijn64tab), ("internal/strconv.uint64pow10", laid_internal_strconv_uint64pow10), ("papermill/clock.units", laid_papermill_clock_units)] }
def ClockCrewsSaid : Prop := clockCrewsRow.holds Tryd.pinned (OpenSpec.ofChange clockCrewsSpec)

/-- ITS FALSE NEIGHBOUR: 'it returns false'. Refute it at one input. -/
def clockCrewsWrong : ChangeSpec := { name := "clockCrews", fn := fun _ => fun
  | [d1, d2] => { results := [.lit (.bool false)], args := [d1, d2] }
  | _ => none }
def ClockCrewsWrongFalsely : Prop := clockCrewsRow.holds Tryd.pinned (OpenSpec.ofChange clockCrewsWrong)

/-- 'papermilllaw05.ClockSteps': WHATEVER THE INPUT: true; the input reads as it did. -/
def clockStepsSpec : ChangeSpec := { name := "clockSteps", fn := fun _ => fun
  | [d1, d2] => { results := [.lit (.bool true)], args := [d1, d2] }
  | _ => none }
def clockStepsRow : OpenClaim := { program := "ytngjdclcnocmfaadoor", sum := "1fefaef3b1574b6065e106651596b32b6771135e214ddd1b54007d3a1c765c3d", func := "papermill/papermilllaw05.ClockSteps", spec := "clockSteps", named := ["papermill/clock.units", "internal/strconv.uint64pow10", "math/bits.deBruijn32tab", "math/bits.deBruijn64tab"], apart := false, laid := [("math/bits.deBruijn32tab", laid_math_bits_deBruijn32tab), ("math/bits.deBruijn64tab", laid_math_bits_deBruijn64tab), ("internal/strconv.uint64pow10", laid_internal_strconv_uint64pow10), ("papermill/clock.units", laid_papermill_clock_units)] }
def ClockStepsSaid : Prop := clockStepsRow.holds Tryd.pinned (OpenSpec.ofChange clockStepsSpec)

/-- ITS FALSE NEIGHBOUR: 'it returns false'. Refute it at one input. -/
def clockStepsWrong : ChangeSpec := { name := "clockSteps", fn := fun _ => fun
  | [d1, d2] => { results := [.lit (.bool false)], args := [d1, d2] }
  | _ => none }
def ClockStepsWrongFalsely : Prop := clockStepsRow.holds Tryd.pinned (OpenSpec.ofChange clockStepsWrong)

/-- 'papermilllaw05.ClockNexts': WHATEVER THE INPUT: true; the input reads as it did. -/
def clockNextsSpec : ChangeSpec := { name := "clockNexts", fn := fun _ => fun
  | [d1, d2] => { results := [.lit (.bool true)], args := [d1, d2] }
  | _ => none }
def clockNextsRow : OpenClaim := { program := "ytngjdclcnocmfaadoor", sum := "1fefaef3b1574b6065e106651596b32b6771135e214ddd1b54007d3a1c765c3d", func := "papermill/papermilllaw05.ClockNexts", spec := "clockNexts", named := ["papermill/clock.units", "internal/strconv.uint64pow10", "math/bits.deBruijn32tab", "math/bits.deBruijn64tab"], apart := false, laid := [("math/bits.deBruijn32tab", laid_math_bits_deBruijn32tab), ("math/bits.deBruijn64tab", laid_math_bits_deBruijn64tab), ("internal/strconv.uint64pow10", laid_internal_strconv_uint64pow10), ("papermill/clock.units", laid_papermill_clock_units)] }
def ClockNextsSaid : Prop := clockNextsRow.holds Tryd.pinned (OpenSpec.ofChange clockNextsSpec)

/-- ITS FALSE NEIGHBOUR: 'it returns false'. Refute it at one input. -/
def clockNextsWrong : ChangeSpec := { name := "clockNexts", fn := fun _ => fun
  | [d1, d2] => { results := [.lit (.bool false)], args := [d1, d2] }
  | _ => none }
def ClockNextsWrongFalsely : Prop := clockNextsRow.holds Tryd.pinned (OpenSpec.ofChange clockNextsWrong)

/-- 'papermilllaw05.ClockParts': WHATEVER THE INPUT: true; the input reads as it did. -/
def clockPartsSpec : ChangeSpec := { name := "clockParts", fn := fun _ => fun
  | [d] => { results := [.lit (.bool true)], args := [d] }
  | _ => none }
def clockPartsRow : OpenClaim := { program := "ytngjdclcnocmfaadoor", sum := "1fefaef3b1574b6065e106651596b32b6771135e214ddd1b54007d3a1c765c3d", func := "papermill/papermilllaw05.ClockParts", spec := "clockParts", named := ["papermill/clock.units", "internal/strconv.uint64pow10", "math/bits.deBruijn32tab", "math/bits.deBruijn64tab"], apart := false, laid := [("math/bits.deBruijn32tab", laid_math_bits_deBruijn32tab), ("math/bits.deBruijn64tab", laid_math_bits_deBruijn64tab), ("internal/strconv.uint64pow10", laid_internal_strconv_uint64pow10), ("papermill/clock.units", laid_papermill_clock_units)] }
def ClockPartsSaid : Prop := clockPartsRow.holds Tryd.pinned (OpenSpec.ofChange clockPartsSpec)

/-- ITS FALSE NEIGHBOUR: 'it returns false'. Refute it at one input. -/
def clockPartsWrong : ChangeSpec := { name := "clockParts", fn := fun _ => fun
  | [d] => { results := [.lit (.bool false)], args := [d] }
  | _ => none }
def ClockPartsWrongFalsely : Prop := clockPartsRow.holds Tryd.pinned (OpenSpec.ofChange clockPartsWrong)

/-- 'papermilllaw05.ClockRoundTrip': WHATEVER THE INPUT: true; the input reads as it did. -/
def clockRoundTripSpec : ChangeSpec := { name := "clockRoundTrip", fn := fun _ => fun
  | [d1, d2, d3] => { results := [.lit (.bool true)], args := [d1, d2, d3] }
  | _ => none }
def clockRoundTripRow : OpenClaim := { program := "ytngjdclcnocmfaadoor", sum := "1fefaef3b1574b6065e106651596b32b6771135e214ddd1b54007d3a1c765c3d", func := "papermill/papermilllaw05.ClockRoundTrip", spec := "clockRoundTrip", named := ["papermill/clock.units", "internal/strconv.uint64pow10", "math/bits.deBruijn32tab", "math/bits.deBruijn64tab"], apart := false, laid := [("math/bits.deBruijn32tab", laid_math_bits_deBruijn32tab), ("math/bits.deBruijn64tab", laid_math_bits_deBruijn64tab), ("internal/strconv.uint64pow10", laid_internal_strconv_uint64pow10), ("papermill/clock.units", laid_papermill_clock_units)] }
def ClockRoundTripSaid : Prop := clockRoundTripRow.holds Tryd.pinned (OpenSpec.ofChange clockRoundTripSpec)

/-- ITS FALSE NEIGHBOUR: 'it returns false'. Refute it at one input. -/
def clockRoundTripWrong : ChangeSpec := { name := "clockRoundTrip", fn := fun _ => fun
  | [d1, d2, d3] => { results := [.lit (.bool false)], args := [d1, d2, d3] }
  | _ => none }
def ClockRoundTripWrongFalsely : Prop := clockRoundTripRow.holds Tryd.pinned (OpenSpec.ofChange clockRoundTripWrong)

/-- 'papermilllaw05.ClockAdds': WHATEVER THE INPUT: true; the input reads as it did. -/
def clockAddsSpec : ChangeSpec := { name := "clockAdds", fn := fun _ => fun
  | [d1, d2, d3, d4] => { results := [.lit (.bool true)], args := [d1, d2, d3, d4] }
  | _ => none }
def clockAddsRow : OpenClaim := { program := "ytngjdclcnocmfaadoor", sum := "1fefaef3b1574b6065e106651596b32b6771135e214ddd1b54007d3a1c765c3d", func := "papermill/papermilllaw05.ClockAdds", spec := "clockAdds", named := ["papermill/clock.units", "internal/strconv.uint64pow10", "math/bits.deBruijn32tab", "math/bits.deBruijn64tab"], apart := false, laid := [("math/bits.deBruijn32tab", laid_math_bits_deBruijn32tab), ("math/bits.deBruijn64tab", laid_math_bits_deBruijn64tab), ("internal/strconv.uint64pow10", laid_internal_strconv_uint64pow10), ("papermill/clock.units", laid_papermill_clock_units)] }
def ClockAddsSaid : Prop := clockAddsRow.holds Tryd.pinned (OpenSpec.ofChange clockAddsSpec)

/-- ITS FALSE NEIGHBOUR: 'it returns false'. Refute it at one input. -/
def clockAddsWrong : ChangeSpec := { name := "clockAdds", fn := fun _ => fun
  | [d1, d2, d3, d4] => { results := [.lit (.bool false)], args := [d1, d2, d3, d4] }
  | _ => none }
def ClockAddsWrongFalsely : Prop := clockAddsRow.holds Tryd.pinned (OpenSpec.ofChange clockAddsWrong)

/- THE SECOND FORM. 'bulk': how many values and letters a reading holds, each counted each time it is reached (what is shared counts as often as it is met; a slice's spare places count too). A statement '..UptoSaid' is the law's where the arguments, and the package variables that the reading takes, are together of bulk at most 1048576: NARROWER than '..Said'. Prove '..Said' where nothing that the law and all that it calls make is longer than what came in: it says more and counts as full. Else prove '..UptoSaid'. A law counts once. -/
mutual
def uptoBulk {H : Type} : DataW H → Nat
  | .lit (.string bytes) => bytes.length + 1
  | .lit _ => 1
  | .nil => 1
  | .ptr d => uptoBulk d + 1
  | .slice elems spare => uptoBulkAll elems + uptoBulkAll spare + 1
  | .agg parts => uptoBulkAll parts + 1
  | .iface _ d => uptoBulk d + 1
  | .map entries => uptoBulkEntries entries + 1
  | .held _ => 1
def uptoBulkAll {H : Type} : List (DataW H) → Nat
  | [] => 0
  | d :: r => uptoBulk d + uptoBulkAll r
def uptoBulkEntries {H : Type} : List (Lit × DataW H) → Nat
  | [] => 0
  | x :: r => uptoBulkEntry x + uptoBulkEntries r
def uptoBulkEntry {H : Type} : Lit × DataW H → Nat
  | (.string bytes, d) => bytes.length + uptoBulk d + 1
  | (_, d) => uptoBulk d + 1
 end
def uptoSmall : (H : Type) → List (DataW H) → Bool := fun _ ds => decide (uptoBulkAll ds ≤ 1048576)
def OpenSpec.upto (s : _root_.Go.ChangeSpec) : _root_.Go.OpenSpec := { _root_.Go.OpenSpec.ofChange s with cond := some uptoSmall }

/-- 'papermilllaw05.ClockShifts', WHERE WHAT IT READS IS OF BULK AT MOST 1048576: true; the input reads as it did. -/
def clockShiftsUptoRow : OpenClaim := { program := "ytngjdclcnocmfaadoor", sum := "1fefaef3b1574b6065e106651596b32b6771135e214ddd1b54007d3a1c765c3d", func := "papermill/papermilllaw05.ClockShifts", spec := "clockShifts", named := ["papermill/clock.units", "internal/strconv.uint64pow10", "math/bits.deBruijn32tab", "math/bits.deBruijn64tab"], apart := false, laid := [("math/bits.deBruijn32tab", laid_math_bits_deBruijn32tab), ("math/bits.deBruijn64tab", laid_math_bits_deBruijn64tab), ("internal/strconv.uint64pow10", laid_internal_strconv_uint64pow10), ("papermill/clock.units", laid_papermill_clock_units)], narrowed := true }
def ClockShiftsUptoSaid : Prop := clockShiftsUptoRow.holds Tryd.pinned (OpenSpec.upto clockShiftsSpec)

/-- 'papermilllaw05.ClockForms', WHERE WHAT IT READS IS OF BULK AT MOST 1048576: true; the input reads as it did. -/
def clockFormsUptoRow : OpenClaim := { program := "ytngjdclcnocmfaadoor", sum := "1fefaef3b1574b6065e106651596b32b6771135e214ddd1b54007d3a1c765c3d", func := "papermill/papermilllaw05.ClockForms", spec := "clockForms", named := ["papermill/clock.units", "internal/strconv.uint64pow10", "math/bits.deBruijn32tab", "math/bits.deBruijn64tab"], apart := false, laid := [("math/bits.deBruijn32tab", laid_math_bits_deBruijn32tab), ("math/bits.deBruijn64tab", laid_math_bits_deBruijn64tab), ("internal/strconv.uint64pow10", laid_internal_strconv_uint64pow10), ("papermill/clock.units", laid_papermill_clock_units)], narrowed := true }
def ClockFormsUptoSaid : Prop := clockFormsUptoRow.holds Tryd.pinned (OpenSpec.upto clockFormsSpec)

/-- 'papermilllaw05.ClockCrews', WHERE WHAT IT READS IS OF BULK AT MOST 1048576: true; the input reads as it did. -/
def clockCrewsUptoRow : OpenClaim := { program := "ytngjdclcnocmfaadoor", sum := "1fefaef3b1574b6065e106651596b32b6771135e214ddd1b54007d3a1c765c3d", func := "papermill/papermilllaw05.ClockCrews", spec := "clockCrews", named := ["papermill/clock.units", "internal/strconv.uint64pow10", "math/bits.deBruijn32tab", "math/bits.deBruijn64tab"], apart := false, laid := [("math/bits.deBruijn32tab", laid_math_bits_deBruijn32tab), ("math/bits.deBruijn64tab", laid_math_bits_deBruijn64tab), ("internal/strconv.uint64pow10", laid_internal_strconv_uint64pow10), ("papermill/clock.units", laid_papermill_clock_units)], narrowed := true }
def ClockCrewsUptoSaid : Prop := clockCrewsUptoRow.holds Tryd.pinned (OpenSpec.upto clockCrewsSpec)

/-- 'papermilllaw05.ClockSteps', WHERE WHAT IT READS IS OF BULK AT MOST 1048576: true; the input reads as it did. -/
def clockStepsUptoRow : OpenClaim := { program := "ytngjdclcnocmfaadoor", sum := "1fefaef3b1574b6065e106651596b32b6771135e214ddd1b54007d3a1c765c3d", func := "papermill/papermilllaw05.ClockSteps", spec := "clockSteps", named := ["papermill/clock.units", "internal/strconv.uint64pow10", "math/bits.deBruijn32tab", "math/bits.deBruijn64tab"], apart := false, laid := [("math/bits.deBruijn32tab", laid_math_bits_deBruijn32tab), ("math/bits.deBruijn64tab", laid_math_bits_deBruijn64tab), ("internal/strconv.uint64pow10", laid_internal_strconv_uint64pow10), ("papermill/clock.units", laid_papermill_clock_units)], narrowed := true }
def ClockStepsUptoSaid : Prop := clockStepsUptoRow.holds Tryd.pinned (OpenSpec.upto clockStepsSpec)

/-- 'papermilllaw05.ClockNexts', WHERE WHAT IT READS IS OF BULK AT MOST 1048576: true; the input reads as it did. -/
def clockNextsUptoRow : OpenClaim := { program := "ytngjdclcnocmfaadoor", sum := "1fefaef3b1574b6065e106651596b32b6771135e214ddd1b54007d3a1c765c3d", func := "papermill/papermilllaw05.ClockNexts", spec := "clockNexts", named := ["papermill/clock.units", "internal/strconv.uint64pow10", "math/bits.deBruijn32tab", "math/bits.deBruijn64tab"], apart := false, laid := [("math/bits.deBruijn32tab", laid_math_bits_deBruijn32tab), ("math/bits.deBruijn64tab", laid_math_bits_deBruijn64tab), ("internal/strconv.uint64pow10", laid_internal_strconv_uint64pow10), ("papermill/clock.units", laid_papermill_clock_units)], narrowed := true }
def ClockNextsUptoSaid : Prop := clockNextsUptoRow.holds Tryd.pinned (OpenSpec.upto clockNextsSpec)

/-- 'papermilllaw05.ClockParts', WHERE WHAT IT READS IS OF BULK AT MOST 1048576: true; the input reads as it did. -/
def clockPartsUptoRow : OpenClaim := { program := "ytngjdclcnocmfaadoor", sum := "1fefaef3b1574b6065e106651596b32b6771135e214ddd1b54007d3a1c765c3d", func := "papermill/papermilllaw05.ClockParts", spec := "clockParts", named := ["papermill/clock.units", "internal/strconv.uint64pow10", "math/bits.deBruijn32tab", "math/bits.deBruijn64tab"], apart := false, laid := [("math/bits.deBruijn32tab", laid_math_bits_deBruijn32tab), ("math/bits.deBruijn64tab", laid_math_bits_deBruijn64tab), ("internal/strconv.uint64pow10", laid_internal_strconv_uint64pow10), ("papermill/clock.units", laid_papermill_clock_units)], narrowed := true }
def ClockPartsUptoSaid : Prop := clockPartsUptoRow.holds Tryd.pinned (OpenSpec.upto clockPartsSpec)

/-- 'papermilllaw05.ClockRoundTrip', WHERE WHAT IT READS IS OF BULK AT MOST 1048576: true; the input reads as it did. -/
def clockRoundTripUptoRow : OpenClaim := { program := "ytngjdclcnocmfaadoor", sum := "1fefaef3b1574b6065e106651596b32b6771135e214ddd1b54007d3a1c765c3d", func := "papermill/papermilllaw05.ClockRoundTrip", spec := "clockRoundTrip", named := ["papermill/clock.units", "internal/strconv.uint64pow10", "math/bits.deBruijn32tab", "math/bits.deBruijn64tab"], apart := false, laid := [("math/bits.deBruijn32tab", laid_math_bits_deBruijn32tab), ("math/bits.deBruijn64tab", laid_math_bits_deBruijn64tab), ("internal/strconv.uint64pow10", laid_internal_strconv_uint64pow10), ("papermill/clock.units", laid_papermill_clock_units)], narrowed := true }
def ClockRoundTripUptoSaid : Prop := clockRoundTripUptoRow.holds Tryd.pinned (OpenSpec.upto clockRoundTripSpec)

/-- 'papermilllaw05.ClockAdds', WHERE WHAT IT READS IS OF BULK AT MOST 1048576: true; the input reads as it did. -/
def clockAddsUptoRow : OpenClaim := { program := "ytngjdclcnocmfaadoor", sum := "1fefaef3b1574b6065e106651596b32b6771135e214ddd1b54007d3a1c765c3d", func := "papermill/papermilllaw05.ClockAdds", spec := "clockAdds", named := ["papermill/clock.units", "internal/strconv.uint64pow10", "math/bits.deBruijn32tab", "math/bits.deBruijn64tab"], apart := false, laid := [("math/bits.deBruijn32tab", laid_math_bits_deBruijn32tab), ("math/bits.deBruijn64tab", laid_math_bits_deBruijn64tab), ("internal/strconv.uint64pow10", laid_internal_strconv_uint64pow10), ("papermill/clock.units", laid_papermill_clock_units)], narrowed := true }
def ClockAddsUptoSaid : Prop := clockAddsUptoRow.holds Tryd.pinned (OpenSpec.upto clockAddsSpec)

end Rows
end Go.Proofs.YtngjdclcnocmfaaDoor
