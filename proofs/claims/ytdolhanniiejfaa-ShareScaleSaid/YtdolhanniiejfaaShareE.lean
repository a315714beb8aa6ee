/- share.Split. -/
import Derived.Test.YtdolhanniiejfaaShareD
import Derived.Deep.Cut
import Derived.Deep.CutRange
namespace Go.Proofs.Ytdolhanniiejfaa.Share
open Go.ChangeShapes Go.WideShapes Go.RowKit Go.Lib Go.Proofs.Ytdolhanniiejfaa.Mem
set_option linter.unusedVariables false
set_option maxRecDepth 100000

/-- A list of the call's own, and an error. -/
def ResL (L : List Int) (E : Nat) (w : World) : Ending → World → Prop := fun e w' => ∃ v, e = .returned (.tuple #[v, .int .i64 (E : Int)]) ∧ Own eI 3 w.heap.size w' v L ∧ Below w.heap.size w w'
def splL (t : Int) (ws : List Int) : List Int := if errS t ws = 0 then partsL t ws else []
def bouL (t : Int) (ws : List Int) : List Int := if errS t ws = 0 then bndsL t ws else []
theorem tup2 {a b : Value} {x y : Int} (h : a = b) (k : x = y) : Ending.returned (.tuple #[a, .int .i64 x]) = .returned (.tuple #[b, .int .i64 y]) := by rw [h, k]

/-! ### What the products are divided by -/
section
variable {t : Int} {ws : List Int}
theorem dvV_ok (h : errS t ws = 0) : ∃ W : Nat, dvV t ws = (W : Int) ∧ 0 < W ∧ W ≤ 1125899906842624 ∧ (∀ i, i < ws.length → wf ws i ≤ W) ∧ (∀ i, i < ws.length → sm (wf ws) (i + 1) ≤ W) ∧
    (∀ i, i < ws.length → t.toNat * wf ws i / W = quo t.toNat (wf ws) ws.length i ∧ t.toNat * wf ws i % W = rst t.toNat (wf ws) ws.length i) ∧ (∀ i, i < ws.length → t.toNat * sm (wf ws) (i + 1) / W = bnd t.toNat (wf ws) ws.length i) := by
  have ok := Ok.of h
  have hT := ok.twI
  have hs := ok.sum
  have hmx : mx = 1125899906842624 := rfl
  unfold dvV
  rw [if_pos h]
  rcases Nat.eq_zero_or_pos (Share.tw (wf ws) ws.length) with hz | hz
  · have ht := ok.zero hz
    have hw : ∀ i, i < ws.length → wf ws i = 0 := fun i hi => by have := ok.w_le hi; omega
    have hm : ∀ i, i < ws.length → sm (wf ws) (i + 1) = 0 := fun i hi => by
      have : sm (wf ws) (i + 1) ≤ Share.tw (wf ws) ws.length := sm_mono (by omega)
      omega
    refine ⟨1, by rw [if_pos (by omega)]; rfl, by omega, by omega, fun i hi => by rw [hw i hi]; omega, fun i hi => by rw [hm i hi]; omega, fun i hi => ?_, fun i hi => ?_⟩
    · unfold quo rst
      rw [hw i hi]; simp
    · unfold bnd
      rw [if_pos hz, hm i hi]; simp
  · refine ⟨Share.tw (wf ws) ws.length, by rw [if_neg (by omega)]; exact hT.symm, hz, by omega, fun i hi => ok.w_le hi, fun i hi => sm_mono (by omega), fun i hi => ⟨rfl, rfl⟩, fun i hi => ?_⟩
    unfold bnd
    rw [if_neg (by omega)]
theorem Ok.gots (h : Ok t ws) {i : Nat} (hi : i < ws.length) : gots (quo t.toNat (wf ws) ws.length) (rst t.toNat (wf ws) ws.length) ws.length (lft t.toNat (wf ws) ws.length) i = part t.toNat (wf ws) ws.length i := by
  rcases Nat.eq_zero_or_pos (Share.tw (wf ws) ws.length) with hz | hz
  · have ht := h.zero hz
    unfold Share.gots part lft quo
    rw [if_pos hz, ht]
    simp
  · exact gots_part hz i
theorem Ok.lft_le (h : Ok t ws) : lft t.toNat (wf ws) ws.length ≤ ws.length := by
  rcases Nat.eq_zero_or_pos (Share.tw (wf ws) ws.length) with hz | hz
  · have ht := h.zero hz
    unfold lft
    rw [ht]; simp
  · exact Nat.le_of_lt (lft_lt hz)
theorem Ok.quo_sum (h : Ok t ws) {k : Nat} (hk : k ≤ ws.length) : sm (quo t.toNat (wf ws) ws.length) k ≤ t.toNat := by
  have h1 : sm (quo t.toNat (wf ws) ws.length) k ≤ sm (quo t.toNat (wf ws) ws.length) ws.length := sm_mono hk
  rcases Nat.eq_zero_or_pos (Share.tw (wf ws) ws.length) with hz | hz
  · have ht := h.zero hz
    have : sm (quo t.toNat (wf ws) ws.length) ws.length = 0 := by
      rw [sm_congr (g := fun _ => 0) fun i _ => by unfold quo; rw [hz]; simp, sm_const]; omega
    omega
  · exact Nat.le_trans h1 (sum_le hz)
end
#print axioms dvV_ok
end Go.Proofs.Ytdolhanniiejfaa.Share
