/- Back, Slip and the results as functions (pure). -/
import Derived.Test.YtkbnhmgladkojaaAlignC
namespace Go.Proofs.Ytkbnhmgladkojaa.Align
set_option linter.unusedVariables false

/-- The least place on the line from m to n at which B shows at least b. -/
def segB (m n : Mk) (b : Int) : Int := m.1 - -((b - m.2) * (n.1 - m.1)) / (n.2 - m.2)
theorem seg_back {m n : Mk} (h : Aft m n) (a b : Int) : b ≤ seg m n a ↔ segB m n b ≤ a := by
  have h1 := h.1
  have h2 := h.2
  have e1 : b ≤ seg m n a ↔ (b - m.2) * (n.1 - m.1) ≤ (a - m.1) * (n.2 - m.2) := by
    rw [← Int.le_ediv_iff_mul_le (show 0 < n.1 - m.1 by omega)]
    unfold seg; omega
  have e2 : segB m n b ≤ a ↔ (m.1 - a) * (n.2 - m.2) ≤ -((b - m.2) * (n.1 - m.1)) := by
    rw [← Int.le_ediv_iff_mul_le (show 0 < n.2 - m.2 by omega)]
    unfold segB; omega
  rw [e1, e2]
  have e3 : (m.1 - a) * (n.2 - m.2) = -((a - m.1) * (n.2 - m.2)) := by grind
  rw [e3]
  omega
def bck (m : Mk) : List Mk → Int → Int
  | [], _ => m.1
  | n :: r, b => if b ≤ n.2 then segB m n b else bck n r b
theorem segB_lo {m n : Mk} (h : Aft m n) {b : Int} (hb : m.2 ≤ b) : m.1 ≤ segB m n b := by
  have h1 := h.1
  have h2 := h.2
  have e : 0 ≤ (b - m.2) * (n.1 - m.1) := Int.mul_nonneg (by omega) (by omega)
  have e2 := Int.ediv_le_ediv (show 0 < n.2 - m.2 by omega) (show -((b - m.2) * (n.1 - m.1)) ≤ 0 by omega)
  rw [Int.zero_ediv] at e2
  unfold segB
  omega
theorem bck_is : ∀ (r : List Mk) (m : Mk), Gro m r → ∀ {b : Int}, m.2 ≤ b → b ≤ (end_ m r).2 → IsBack m r b (bck m r b)
  | [], m, _, b, h0, h1 => by
    unfold end_ at h1
    exact ⟨Int.le_refl _, Int.le_refl _, h1, fun y h2 h3 => by unfold bck at h3; omega⟩
  | n :: r, m, h, b, h0, h1 => by
    have a1 := h.1.1
    have a2 := h.1.2
    have ge := gro_end h.2
    unfold end_ at h1
    rw [bck]
    by_cases hb : b ≤ n.2
    · rw [if_pos hb]
      have x0 := segB_lo h.1 h0
      have x1 : segB m n b ≤ n.1 := (seg_back h.1 n.1 b).mp (by rw [seg_hi h.1]; exact hb)
      refine ⟨x0, by unfold end_; omega, ?_, fun y hy hl => ?_⟩
      · rw [fwd, if_pos x1]; exact (seg_back h.1 _ b).mpr (Int.le_refl _)
      · rw [fwd, if_pos (by omega)]
        have : ¬ b ≤ seg m n y := fun hc => by have := (seg_back h.1 y b).mp hc; omega
        omega
    · rw [if_neg hb]
      have ih := bck_is r n h.2 (b := b) (by omega) h1
      have x0 := ih.1
      have x1 : n.1 < bck n r b := by
        rcases Int.lt_or_eq_of_le x0 with hc | hc
        · exact hc
        · have := ih.2.2.1
          rw [← hc, fwd_lo h.2] at this
          omega
      refine ⟨by omega, ih.2.1, ?_, fun y hy hl => ?_⟩
      · rw [fwd, if_neg (by omega)]; exact ih.2.2.1
      · rw [fwd]
        by_cases hc : y ≤ n.1
        · rw [if_pos hc]
          have := (seg_in h.1 hy hc).2
          omega
        · rw [if_neg hc]; exact ih.2.2.2 y (by omega) hl

/-! ### Slip -/
def lowD (x : Int) : List Mk → Int
  | [] => x
  | n :: r => lowD (min x (n.2 - n.1)) r
def higD (x : Int) : List Mk → Int
  | [] => x
  | n :: r => higD (max x (n.2 - n.1)) r
theorem lowD_le : ∀ (r : List Mk) (x : Int), lowD x r ≤ x ∧ ∀ m ∈ r, lowD x r ≤ m.2 - m.1
  | [], x => ⟨Int.le_refl _, fun m h => by simp at h⟩
  | n :: r, x => by
    have ih := lowD_le r (min x (n.2 - n.1))
    unfold lowD
    refine ⟨by omega, fun m hm => ?_⟩
    rcases List.mem_cons.mp hm with rfl | hm
    · omega
    · exact ih.2 m hm
theorem higD_ge : ∀ (r : List Mk) (x : Int), x ≤ higD x r ∧ ∀ m ∈ r, m.2 - m.1 ≤ higD x r
  | [], x => ⟨Int.le_refl _, fun m h => by simp at h⟩
  | n :: r, x => by
    have ih := higD_ge r (max x (n.2 - n.1))
    unfold higD
    refine ⟨by omega, fun m hm => ?_⟩
    rcases List.mem_cons.mp hm with rfl | hm
    · omega
    · exact ih.2 m hm
theorem lowD_snoc (x : Int) (n : Mk) : ∀ (r : List Mk) (y : Int), lowD y (r ++ [n]) = min (lowD y r) (n.2 - n.1)
  | [], y => rfl
  | m :: r, y => by simp only [List.cons_append, lowD]; exact lowD_snoc x n r _
theorem higD_snoc (x : Int) (n : Mk) : ∀ (r : List Mk) (y : Int), higD y (r ++ [n]) = max (higD y r) (n.2 - n.1)
  | [], y => rfl
  | m :: r, y => by simp only [List.cons_append, higD]; exact higD_snoc x n r _

/-! ### The results -/
def fsA : List Mk → Mk
  | [] => (0, 0)
  | m :: _ => m
def laA : List Mk → Mk
  | [] => (0, 0)
  | m :: r => end_ m r
def valA (L : List Mk) (a : Int) : Int := match L with
  | [] => 0
  | m :: r => fwd m r a
def fwdE (L : List Mk) (a : Int) : Int := if chkA L = 0 then (if (fsA L).1 ≤ a ∧ a ≤ (laA L).1 then 0 else 1) else chkA L
def fwdV (L : List Mk) (a : Int) : Int := if fwdE L a = 0 then valA L a else 0
def bckE (L : List Mk) (b : Int) : Int := if chkA L = 0 then (if (fsA L).2 ≤ b ∧ b ≤ (laA L).2 then 0 else 1) else chkA L
def bckV (L : List Mk) (b : Int) : Int := if bckE L b = 0 then (match L with | [] => 0 | m :: r => bck m r b) else 0
def covE (L : List Mk) (f t : Int) : Int := if chkA L = 0 then (if f = t ∨ (f < t ∧ (fsA L).1 ≤ f ∧ t ≤ (laA L).1 + 1) then 0 else 1) else chkA L
def covV (L : List Mk) (f t : Int) : Int × Int := if covE L f t = 0 ∧ f < t then (valA L f, valA L (t - 1) + 1) else (0, 0)
def slpV (L : List Mk) : Int × Int := if chkA L = 0 then (match L with | [] => (0, 0) | m :: r => (lowD (m.2 - m.1) r, higD (m.2 - m.1) r)) else (0, 0)
def thnV (L : List Mk) : List Mk := if chkA L = 0 then (match L with | [] => [] | m :: r => m :: thn m r) else []
#print axioms bck_is
end Go.Proofs.Ytkbnhmgladkojaa.Align
