/- Slices of integers; contracts of PutList of the program and of the reference. -/
import Derived.Test.YtahgkohnamnljaaDoorWireS
namespace Go.Proofs.YtahgkohnamnljaaDoor.Wire
open Go.ChangeShapes Go.WideShapes Go.RowKit
set_option linter.unusedVariables false
set_option maxRecDepth 100000

/-- At the address lie the integers zs. -/
def Its (w : World) (A : Option Addr) (zs : List Int) : Prop :=
  ∀ (k : Nat) (z : Int), zs[k]? = some z → ∃ b off, A = some ⟨b, off, none⟩ ∧ b < w.heap.size ∧ w.cell? ⟨b, off + k, none⟩ = some (.int .i64 z)
theorem Its.nil (w : World) (A : Option Addr) : Its w A [] := fun k z h => by simp at h
theorem Its.on {w w' : World} {A : Option Addr} {zs : List Int} (h : Its w A zs) (hb : Below w.heap.size w w') : Its w' A zs := by
  intro k z hk
  obtain ⟨b, off, e, hlt, h0⟩ := h k z hk
  exact ⟨b, off, e, Nat.lt_of_lt_of_le hlt hb.size, (hb.cell (p := ⟨b, off + k, none⟩) hlt).trans h0⟩
def InI (w : World) (v : Value) (zs : List Int) : Prop := ∃ A c, v = .slice A zs.length c ∧ zs.length ≤ c ∧ c ≤ maxLen ∧ Its w A zs
theorem InI.on {w w' : World} {v : Value} {zs : List Int} (h : InI w v zs) (hb : Below w.heap.size w w') : InI w' v zs := by
  obtain ⟨A, c, e, h1, h2, h3⟩ := h; exact ⟨A, c, e, h1, h2, h3.on hb⟩
theorem InI.nil (w : World) : InI w (.slice none 0 0) [] := ⟨none, 0, rfl, Nat.le_refl _, by unfold maxLen; omega, Its.nil _ _⟩
def allI (zs : List Int) : Prop := ∀ n ∈ zs, isI n
theorem allI.at {zs : List Int} (h : allI zs) {k : Nat} {z : Int} (hz : zs[k]? = some z) : isI z := h z (List.mem_of_getElem? hz)
theorem allI.take {zs : List Int} (h : allI zs) (k : Nat) : allI (zs.take k) := fun n hn => h n (List.mem_of_mem_take hn)
/-- What PutList has written after k elements. -/
def part (l : List UInt8) (zs : List Int) (k : Nat) : List UInt8 := l ++ (encI (zs.length : Int) ++ encs (zs.take k))
theorem part_zero (l : List UInt8) (zs : List Int) : part l zs 0 = l ++ encI (zs.length : Int) := by simp [part, encs]
theorem part_next (l : List UInt8) {zs : List Int} {k : Nat} {z : Int} (h : zs[k]? = some z) : part l zs (k + 1) = part l zs k ++ encI z := by
  unfold part
  rw [take_snoc_of h, encs_append, encs_one, List.append_assoc, List.append_assoc]
theorem part_end (l : List UInt8) (zs : List Int) : part l zs zs.length = l ++ encL zs := by
  unfold part encL; rw [List.take_length]
theorem part_len {l : List UInt8} {zs : List Int} (h : zs.length ≤ 4000) (hl : l.length ≤ 50000) (hi : allI zs) (k : Nat) : (part l zs k).length ≤ 90010 := by
  have h1 := encI_ten (len_isI (n := zs.length) (by omega))
  have h2 := encs_ten (hi.take k)
  have h3 : (zs.take k).length ≤ zs.length := by rw [List.length_take]; omega
  unfold part; simp only [List.length_append]; omega

def Pl (B : Nat) (w : World) (l : List UInt8) (zs : List Int) (v i : Value) (wr : World) : Prop :=
  ∃ k : Nat, k ≤ zs.length ∧ i = .int .i64 (k : Int) ∧ OwnY B wr v (part l zs k) ∧ Below B w wr
end Go.Proofs.YtahgkohnamnljaaDoor.Wire
