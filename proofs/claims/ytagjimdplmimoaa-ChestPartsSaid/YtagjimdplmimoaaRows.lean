/-
  No cell of these rows narrows 'for every input' (looked for: loops, veiled, ifaces, maps, wideKeys, modest, calm, conditions, laid).
  DERIVED. THE GIVEN ROWS OF THIS SEAT. 6 by the template 'for every input the law returns true; each argument reads behind the call as it read before'; 0 by the template 'total and deterministic' (their statements: YtagjimdplmimoaaTotals.lean).
  GIVEN WITH THE SEED: the statements are not yours to turn. If you find one false, say at which input.
  Laid BY PROGRAM, IN A SANDBOX (cutbox-rows.mjs): the forced cells as the released guide's own fill.sh prints them over the translation e5a87018dc5dd0c3… (all of the seat's roots in one cut). By AI agents, Wed Nov 11 2026. No macro, syntax, notation, axiom, sorry.
-/
import Derived.Test.YtagjimdplmimoaaChecked
import GoSem.Claim
import GoSem.ClaimJoined
import GoSem.ClaimMapViews
import Derived.JoinedTies
import Derived.KernelRfl
namespace Go.Proofs.Ytagjimdplmimoaa
/- THE CELL 'sum', in the pinned program and in every row, IS THE sha256 OF THE DUMP (.gsa) THAT YtagjimdplmimoaaProg.lean LOADS. Nothing in Lean hashes anything: it is a label: what it is worth is what the hold of that sum in a sandbox is worth. -/
noncomputable def Try.pinned : Pinned := { name := "ytagjimdplmimoaa", sum := "e5a87018dc5dd0c36424e189845fcdd64ca47213a33826ba796f32ee6b795607", checked := Try.checked }
namespace Rows
def none {H : Type} : Left H := { results := [], args := [] }

/-- 'papermilllaw18.ChestNews': WHATEVER THE INPUT: true; the input reads as it did. -/
def chestNewsSpec : ChangeSpec := { name := "chestNews", fn := fun _ => fun
  | [d1, d2] => { results := [.lit (.bool true)], args := [d1, d2] }
  | _ => none }
def chestNewsRow : OpenClaim := { program := "ytagjimdplmimoaa", sum := "e5a87018dc5dd0c36424e189845fcdd64ca47213a33826ba796f32ee6b795607", func := "papermill/papermilllaw18.ChestNews", spec := "chestNews", inPlace := ["math/bits.Add64"], unfollowed := true, recurses := true, named := ["math/bits.divideError", "math/bits.overflowError"], apart := false }
def ChestNewsSaid : Prop := chestNewsRow.holds Try.pinned (OpenSpec.ofChange chestNewsSpec)

/-- ITS FALSE NEIGHBOUR: 'it returns false'. Refute it at one input. -/
def chestNewsWrong : ChangeSpec := { name := "chestNews", fn := fun _ => fun
  | [d1, d2] => { results := [.lit (.bool false)], args := [d1, d2] }
  | _ => none }
def ChestNewsWrongFalsely : Prop := chestNewsRow.holds Try.pinned (OpenSpec.ofChange chestNewsWrong)

/-- 'papermilllaw18.ChestChecks': WHATEVER THE INPUT: true; the input reads as it did. -/
def chestChecksSpec : ChangeSpec := { name := "chestChecks", fn := fun _ => fun
  | [d1, d2] => { results := [.lit (.bool true)], args := [d1, d2] }
  | _ => none }
def chestChecksRow : OpenClaim := { program := "ytagjimdplmimoaa", sum := "e5a87018dc5dd0c36424e189845fcdd64ca47213a33826ba796f32ee6b795607", func := "papermill/papermilllaw18.ChestChecks", spec := "chestChecks", inPlace := ["math/bits.Add64"], unfollowed := true, recurses := true, named := ["math/bits.divideError", "math/bits.overflowError"], apart := false }
def ChestChecksSaid : Prop := chestChecksRow.holds Try.pinned (OpenSpec.ofChange chestChecksSpec)

/-- ITS FALSE NEIGHBOUR: 'it returns false'. Refute it at one input. -/
def chestChecksWrong : ChangeSpec := { name := "chestChecks", fn := fun _ => fun
  | [d1, d2] => { results := [.lit (.bool false)], args := [d1, d2] }
  | _ => none }
def ChestChecksWrongFalsely : Prop := chestChecksRow.holds Try.pinned (OpenSpec.ofChange chestChecksWrong)

/-- 'papermilllaw18.ChestMoves': WHATEVER THE INPUT: true; the input reads as it did. -/
def chestMovesSpec : ChangeSpec := { name := "chestMoves", fn := fun _ => fun
  | [d1, d2, d3] => { results := [.lit (.bool true)], args := [d1, d2, d3] }
  | _ => none }
def chestMovesRow : OpenClaim := { program := "ytagjimdplmimoaa", sum := "e5a87018dc5dd0c36424e189845fcdd64ca47213a33826ba796f32ee6b795607", func := "papermill/papermilllaw18.ChestMoves", spec := "chestMoves", inPlace := ["math/bits.Add64"], unfollowed := true, recurses := true, named := ["math/bits.divideError", "math/bits.overflowError"], apart := false }
def ChestMovesSaid : Prop := chestMovesRow.holds Try.pinned (OpenSpec.ofChange chestMovesSpec)

/-- ITS FALSE NEIGHBOUR: 'it returns false'. Refute it at one input. -/
def chestMovesWrong : ChangeSpec := { name := "chestMoves", fn := fun _ => fun
  | [d1, d2, d3] => { results := [.lit (.bool false)], args := [d1, d2, d3] }
  | _ => none }
def ChestMovesWrongFalsely : Prop := chestMovesRow.holds Try.pinned (OpenSpec.ofChange chestMovesWrong)

/-- 'papermilllaw18.ChestPours': WHATEVER THE INPUT: true; the input reads as it did. -/
def chestPoursSpec : ChangeSpec := { name := "chestPours", fn := fun _ => fun
  | [d1, d2, d3] => { results := [.lit (.bool true)], args := [d1, d2, d3] }
  | _ => none }
def chestPoursRow : OpenClaim := { program := "ytagjimdplmimoaa", sum := "e5a87018dc5dd0c36424e189845fcdd64ca47213a33826ba796f32ee6b795607", func := "papermill/papermilllaw18.ChestPours", spec := "chestPours", inPlace := ["math/bits.Add64"], unfollowed := true, recurses := true, named := ["math/bits.divideError", "math/bits.overflowError"], apart := false }
def ChestPoursSaid : Prop := chestPoursRow.holds Try.pinned (OpenSpec.ofChange chestPoursSpec)

/-- ITS FALSE NEIGHBOUR: 'it returns false'. Refute it at one input. -/
def chestPoursWrong : ChangeSpec := { name := "chestPours", fn := fun _ => fun
  | [d1, d2, d3] => { results := [.lit (.bool false)], args := [d1, d2, d3] }
  | _ => none }
def ChestPoursWrongFalsely : Prop := chestPoursRow.holds Try.pinned (OpenSpec.ofChange chestPoursWrong)

/-- 'papermilllaw18.ChestKeeps': WHATEVER THE INPUT: true; the input reads as it did. -/
def chestKeepsSpec : ChangeSpec := { name := "chestKeeps", fn := fun _ => fun
  | [d1, d2, d3] => { results := [.lit (.bool true)], args := [d1, d2, d3] }
  | _ => none }
def chestKeepsRow : OpenClaim := { program := "ytagjimdplmimoaa", sum := "e5a87018dc5dd0c36424e189845fcdd64ca47213a33826ba796f32ee6b795607", func := "papermill/papermilllaw18.ChestKeeps", spec := "chestKeeps", inPlace := ["math/bits.Add64"], unfollowed := true, recurses := true, named := ["math/bits.divideError", "math/bits.overflowError"], apart := false }
def ChestKeepsSaid : Prop := chestKeepsRow.holds Try.pinned (OpenSpec.ofChange chestKeepsSpec)

/-- ITS FALSE NEIGHBOUR: 'it returns false'. Refute it at one input. -/
def chestKeepsWrong : ChangeSpec := { name := "chestKeeps", fn := fun _ => fun
  | [d1, d2, d3] => { results := [.lit (.bool false)], args := [d1, d2, d3] }
  | _ => none }
def ChestKeepsWrongFalsely : Prop := chestKeepsRow.holds Try.pinned (OpenSpec.ofChange chestKeepsWrong)

/-- 'papermilllaw18.ChestParts': WHATEVER THE INPUT: true; the input reads as it did. -/
def chestPartsSpec : ChangeSpec := { name := "chestParts", fn := fun _ => fun
  | [d1, d2] => { results := [.lit (.bool true)], args := [d1, d2] }
  | _ => none }
def chestPartsRow : OpenClaim := { program := "ytagjimdplmimoaa", sum := "e5a87018dc5dd0c36424e189845fcdd64ca47213a33826ba796f32ee6b795607", func := "papermill/papermilllaw18.ChestParts", spec := "chestParts", inPlace := ["math/bits.Add64"], unfollowed := true, recurses := true, named := ["math/bits.divideError", "math/bits.overflowError"], apart := false }
def ChestPartsSaid : Prop := chestPartsRow.holds Try.pinned (OpenSpec.ofChange chestPartsSpec)

/-- ITS FALSE NEIGHBOUR: 'it returns false'. Refute it at one input. -/
def chestPartsWrong : ChangeSpec := { name := "chestParts", fn := fun _ => fun
  | [d1, d2] => { results := [.lit (.bool false)], args := [d1, d2] }
  | _ => none }
def ChestPartsWrongFalsely : Prop := chestPartsRow.holds Try.pinned (OpenSpec.ofChange chestPartsWrong)

/- THE SECOND FORM. 'bulk': how many values and letters a reading holds, each counted each time it is reached (what is shared counts as often as it is met; a slice's spare places count too). A statement '..UptoSaid' is the law's where the arguments, and the package variables that the reading takes, are together of bulk at most 1048576: NARROWER than '..Said'. Prove '..Said' where nothing that the law and all that it calls make is longer than what came in: it says more and counts as full. Else prove '..UptoSaid'. A law counts once. -/
mutual
def uptoBulk {H : Type} : DataW H → Nat
  | .lit (.string bytes) => bytes.length + 1
  | .lit _ => 1
  | .nil => 1
  | .ptr d => uptoBulk d + 1
  | .slice elems spare => uptoBulkAll elems + uptoBulkAll spare + 1
  | .agg parts => uptoBulkAll parts + 1
  | .iface _ d => uptoBulk d + 1
  | .map entries => uptoBulkEntries entries + 1
  | .held _ => 1
def uptoBulkAll {H : Type} : List (DataW H) → Nat
  | [] => 0
  | d :: r => uptoBulk d + uptoBulkAll r
def uptoBulkEntries {H : Type} : List (Lit × DataW H) → Nat
  | [] => 0
  | x :: r => uptoBulkEntry x + uptoBulkEntries r
def uptoBulkEntry {H : Type} : Lit × DataW H → Nat
  | (.string bytes, d) => bytes.length + uptoBulk d + 1
  | (_, d) => uptoBulk d + 1
 end
def uptoSmall : (H : Type) → List (DataW H) → Bool := fun _ ds => decide (uptoBulkAll ds ≤ 1048576)
def OpenSpec.upto (s : _root_.Go.ChangeSpec) : _root_.Go.OpenSpec := { _root_.Go.OpenSpec.ofChange s with cond := some uptoSmall }

/-- 'papermilllaw18.ChestNews', WHERE WHAT IT READS IS OF BULK AT MOST 1048576: true; the input reads as it did. -/
def chestNewsUptoRow : OpenClaim := { program := "ytagjimdplmimoaa", sum := "e5a87018dc5dd0c36424e189845fcdd64ca47213a33826ba796f32ee6b795607", func := "papermill/papermilllaw18.ChestNews", spec := "chestNews", inPlace := ["math/bits.Add64"], unfollowed := true, recurses := true, named := ["math/bits.divideError", "math/bits.overflowError"], apart := false, narrowed := true }
def ChestNewsUptoSaid : Prop := chestNewsUptoRow.holds Try.pinned (OpenSpec.upto chestNewsSpec)

/-- 'papermilllaw18.ChestChecks', WHERE WHAT IT READS IS OF BULK AT MOST 1048576: true; the input reads as it did. -/
def chestChecksUptoRow : OpenClaim := { program := "ytagjimdplmimoaa", sum := "e5a87018dc5dd0c36424e189845fcdd64ca47213a33826ba796f32ee6b795607", func := "papermill/papermilllaw18.ChestChecks", spec := "chestChecks", inPlace := ["math/bits.Add64"], unfollowed := true, recurses := true, named := ["math/bits.divideError", "math/bits.overflowError"], apart := false, narrowed := true }
def ChestChecksUptoSaid : Prop := chestChecksUptoRow.holds Try.pinned (OpenSpec.upto chestChecksSpec)

/-- 'papermilllaw18.ChestMoves', WHERE WHAT IT READS IS OF BULK AT MOST 1048576: true; the input reads as it did. -/
def chestMovesUptoRow : OpenClaim := { program := "ytagjimdplmimoaa", sum := "e5a87018dc5dd0c36424e189845fcdd64ca47213a33826ba796f32ee6b795607", func := "papermill/papermilllaw18.ChestMoves", spec := "chestMoves", inPlace := ["math/bits.Add64"], unfollowed := true, recurses := true, named := ["math/bits.divideError", "math/bits.overflowError"], apart := false, narrowed := true }
def ChestMovesUptoSaid : Prop := chestMovesUptoRow.holds Try.pinned (OpenSpec.upto chestMovesSpec)

/-- 'papermilllaw18.ChestPours', WHERE WHAT IT READS IS OF BULK AT MOST 1048576: true; the input reads as it did. -/
def chestPoursUptoRow : OpenClaim := { program := "ytagjimdplmimoaa", sum := "e5a87018dc5dd0c36424e189845fcdd64ca47213a33826ba796f32ee6b795607", func := "papermill/papermilllaw18.ChestPours", spec := "chestPours", inPlace := ["math/bits.Add64"], unfollowed := true, recurses := true, named := ["math/bits.divideError", "math/bits.overflowError"], apart := false, narrowed := true }
def ChestPoursUptoSaid : Prop := chestPoursUptoRow.holds Try.pinned (OpenSpec.upto chestPoursSpec)

/-- 'papermilllaw18.ChestKeeps', WHERE WHAT IT READS IS OF BULK AT MOST 1048576: true; the input reads as it did. -/
def chestKeepsUptoRow : OpenClaim := { program := "ytagjimdplmimoaa", sum := "e5a87018dc5dd0c36424e189845fcdd64ca47213a33826ba796f32ee6b795607", func := "papermill/papermilllaw18.ChestKeeps", spec := "chestKeeps", inPlace := ["math/bits.Add64"], unfollowed := true, recurses := true, named := ["math/bits.divideError", "math/bits.overflowError"], apart := false, narrowed := true }
def ChestKeepsUptoSaid : Prop := chestKeepsUptoRow.holds Try.pinned (OpenSpec.upto chestKeepsSpec)

/-- 'papermilllaw18.ChestParts', WHERE WHAT IT READS IS OF BULK AT MOST 1048576: true; the input reads as it did. -/
def chestPartsUptoRow : OpenClaim := { program := "ytagjimdplmimoaa", sum := "e5a87018dc5dd0c36424e189845fcdd64ca47213a33826ba796f32ee6b795607", func := "papermill/papermilllaw18.ChestParts", spec := "chestParts", inPlace := ["math/bits.Add64"], unfollowed := true, recurses := true, named := ["math/bits.divideError", "math/bits.overflowError"], apart := false, narrowed := true }
def ChestPartsUptoSaid : Prop := chestPartsUptoRow.holds Try.pinned (OpenSpec.upto chestPartsSpec)

end Rows
end Go.Proofs.Ytagjimdplmimoaa
