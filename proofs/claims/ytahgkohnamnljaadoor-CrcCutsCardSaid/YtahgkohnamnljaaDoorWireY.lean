/- Slices of bytes that came in. -/
import Derived.Test.YtahgkohnamnljaaDoorWireB
import Derived.Test.YtahgkohnamnljaaDoorLawKit
namespace Go.Proofs.YtahgkohnamnljaaDoor.Wire
open Go.ChangeShapes Go.WideShapes Go.RowKit
set_option linter.unusedVariables false
set_option maxRecDepth 100000

/-! ### What comes in -/
theorem wf_isI {n : Int} (h : (Lit.int .i64 n).wf = true) : isI n := by
  simpa [isI, Lit.wf, IntKind.min, IntKind.max, IntKind.signed, IntKind.bits] using h
theorem wf_byte {n : Int} (h : (Lit.int .u8 n).wf = true) : 0 ≤ n ∧ n ≤ 255 := by
  simpa [Lit.wf, IntKind.min, IntKind.max, IntKind.signed, IntKind.bits] using h
theorem in_y {w : World} {A : Option Addr} {n c : Nat} {zs : List Int} (h : InInts .u8 w A n c zs) : ∃ l : List UInt8, n = l.length ∧ InY w (.slice A l.length c) l := by
  obtain ⟨rfl, h1, h2, h3, h4⟩ := h
  refine ⟨zs.map fun z => UInt8.ofNat z.toNat, by simp, A, c, rfl, by simpa using h1, h2, fun k b hb => ?_⟩
  rw [List.getElem?_map] at hb
  cases hz : zs[k]? with
  | none => rw [hz] at hb; cases hb
  | some z =>
    rw [hz] at hb
    simp only [Option.map_some, Option.some.injEq] at hb
    obtain ⟨g, off, e, hlt, hc⟩ := h4 k z hz
    have hw := wf_byte (h3 z (List.mem_of_getElem? hz))
    refine ⟨g, off, e, hlt, ?_⟩
    rw [hc, ← hb, byte_of (by omega), Int.toNat_of_nonneg hw.1]
theorem InY.small {w : World} {A : Option Addr} {n c : Nat} {l : List UInt8} (h : InY w (.slice A n c) l) : l.length ≤ 9223372036854775807 := by
  obtain ⟨_, _, _, h1, h2, _⟩ := h
  unfold maxLen at h2; omega
#print axioms in_y
end Go.Proofs.YtahgkohnamnljaaDoor.Wire
