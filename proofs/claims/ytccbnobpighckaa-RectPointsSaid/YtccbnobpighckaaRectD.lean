/- Positions along and across; the results as functions (pure). -/
import Derived.Test.YtccbnobpighckaaRectC
import Derived.Test.YtccbnobpighckaaSpanA
namespace Go.Proofs.Ytccbnobpighckaa.Rect
open Go.Proofs.Ytccbnobpighckaa.Span (hasB hasB_iff inS chkE chk_of IsNf)
set_option linter.unusedVariables false

/-- The span of a rectangle: along or across. -/
def spR (al : Bool) (r : Rc) : Int × Int := if al then (r.2.2.1, r.2.2.2) else (r.1, r.2.1)
/-- The spans of those that have points. -/
def spL (al : Bool) : List Rc → List (Int × Int)
  | [] => []
  | r :: L => if ptB r then spR al r :: spL al L else spL al L
/-- The positions of all points. -/
def setB (al : Bool) (L : List Rc) (z : Int) : Bool := L.any fun r => ptB r && inS (spR al r) z
theorem spL_snoc (al : Bool) (r : Rc) : ∀ L : List Rc, spL al (L ++ [r]) = spL al L ++ (if ptB r then [spR al r] else [])
  | [] => by simp [spL]
  | s :: L => by
    rw [List.cons_append, spL, spL, spL_snoc al r L]
    split <;> rfl
theorem spL_len (al : Bool) : ∀ L : List Rc, (spL al L).length ≤ L.length
  | [] => Nat.le_refl _
  | r :: L => by
    have := spL_len al L
    rw [spL]
    split <;> simp only [List.length_cons] <;> omega
theorem mem_spL {al : Bool} {s : Int × Int} : ∀ {L : List Rc}, s ∈ spL al L → ∃ r ∈ L, ptB r = true ∧ spR al r = s
  | [], h => by simp [spL] at h
  | r :: L, h => by
    rw [spL] at h
    by_cases hp : ptB r = true
    · rw [if_pos hp] at h
      rcases List.mem_cons.mp h with rfl | h
      · exact ⟨r, by simp, hp, rfl⟩
      · obtain ⟨t, ht, h2⟩ := mem_spL h
        exact ⟨t, by simp [ht], h2⟩
    · rw [if_neg hp] at h
      obtain ⟨t, ht, h2⟩ := mem_spL h
      exact ⟨t, by simp [ht], h2⟩
theorem has_spL (al : Bool) (z : Int) : ∀ L : List Rc, hasB (spL al L) z = setB al L z
  | [] => rfl
  | r :: L => by
    have ih := has_spL al z L
    unfold setB at ih ⊢
    rw [spL, List.any_cons, ← ih]
    by_cases hp : ptB r = true
    · rw [if_pos hp, hp, Bool.true_and]; rfl
    · rw [if_neg hp]
      rw [Bool.not_eq_true] at hp
      rw [hp, Bool.false_and, Bool.false_or]
theorem chk_spL {L : List Rc} (h : lsE L = 0) (al : Bool) : chkE (spL al L) = 0 := by
  obtain ⟨h1, h2⟩ := lsE_of h
  have := spL_len al L
  refine chk_of (by omega) fun s hs => ?_
  obtain ⟨r, hr, hp, rfl⟩ := mem_spL hs
  have h3 := ckB_iff.mp (h2 r hr)
  unfold spR
  split
  · exact ⟨h3.2.1, h3.2.2.1, h3.2.2.2⟩
  · simp only; omega
theorem in_set {L : List Rc} {x y : Int} (h : inL L x y = true) : setB true L y = true ∧ setB false L x = true := by
  obtain ⟨r, hr, hi⟩ := inL_iff.mp h
  have hp := in_pt hi
  have h1 := inR_iff.mp hi
  constructor
  · unfold setB
    refine List.any_eq_true.mpr ⟨r, hr, ?_⟩
    rw [hp, Bool.true_and, Span.inS_iff]
    exact h1.2
  · unfold setB
    refine List.any_eq_true.mpr ⟨r, hr, ?_⟩
    rw [hp, Bool.true_and, Span.inS_iff]
    exact h1.1
theorem set_range {L : List Rc} (h : lsE L = 0) {al : Bool} {z : Int} (hz : setB al L z = true) : 0 ≤ z ∧ z < 17179869184 := by
  rw [← has_spL] at hz
  exact Span.chk_range (chk_spL h al) hz

/-! ### The results -/
def arV (r : Rc) : Int := if ckE r = 0 then siz r else 0
def cvV (L : List Rc) : Int := if lsE L = 0 then cv L else 0
def rsE (r : Rc) (L : List Rc) : Int := if ckE r = 0 then lsE L else ckE r
def rsV (r : Rc) (L : List Rc) : Int := if rsE r L = 0 then rs r L else 0
def clV (r : Rc) (L : List Rc) : List Rc := if rsE r L = 0 then clp r L else []
theorem rsE_of {r : Rc} {L : List Rc} (h : rsE r L = 0) : ckB r = true ∧ lsE L = 0 := by
  unfold rsE at h
  by_cases h1 : ckE r = 0
  · rw [if_pos h1] at h; exact ⟨ckE_iff.mp h1, h⟩
  · rw [if_neg h1] at h; exact absurd h h1
theorem siz_lim {r : Rc} (h : ckB r = true) : 0 ≤ siz r ∧ siz r ≤ 206158430208000 := by
  refine ⟨siz_pos h, ?_⟩
  have hk := ckB_iff.mp h
  unfold siz
  have h1 : (r.2.1 - r.1) * (r.2.2.2 - r.2.2.1) ≤ 12000 * (r.2.2.2 - r.2.2.1) := Int.mul_le_mul_of_nonneg_right (by omega) (by omega)
  omega
theorem rs_lim {r : Rc} (h : ckB r = true) (L : List Rc) : 0 ≤ rs r L ∧ rs r L ≤ 206158430208000 := by
  refine ⟨rs_pos r L, ?_⟩
  have h1 := siz_lim h
  have h2 := cv_pos (clp r L)
  rw [rs_is h]
  omega
theorem cv_lim (L : List Rc) : 0 ≤ cv L ∧ cv L ≤ 206158430208000 := ⟨cv_pos L, cv_le L⟩
theorem sumA_lim : ∀ {L : List Rc}, (∀ r ∈ L, ckB r = true) → 0 ≤ sumA L ∧ sumA L ≤ 206158430208000 * (L.length : Int)
  | [], _ => by simp [sumA]
  | r :: L, h => by
    have h1 := siz_lim (h r (by simp))
    have h2 := sumA_lim (L := L) fun s hs => h s (by simp [hs])
    rw [sumA, List.length_cons, show ((L.length + 1 : Nat) : Int) = (L.length : Int) + 1 by omega, Int.mul_add, Int.mul_one]
    omega
theorem sumA_snoc (r : Rc) : ∀ L : List Rc, sumA (L ++ [r]) = sumA L + siz r
  | [] => by simp [sumA]
  | s :: L => by rw [List.cons_append, sumA, sumA, sumA_snoc r L]; omega
#print axioms chk_spL
#print axioms in_set
end Go.Proofs.Ytccbnobpighckaa.Rect
