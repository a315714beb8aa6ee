/- Rectangles, their points and areas (pure). -/
import Derived.Test.YtccbnobpighckaaRectA
namespace Go.Proofs.Ytccbnobpighckaa.Rect
set_option linter.unusedVariables false

/-- A rectangle: Left, Right, From, To. -/
abbrev Rc := Int × Int × Int × Int
def inR (r : Rc) (x y : Int) : Bool := (decide (r.1 ≤ x) && decide (x < r.2.1)) && (decide (r.2.2.1 ≤ y) && decide (y < r.2.2.2))
def ptB (r : Rc) : Bool := decide (r.1 < r.2.1) && decide (r.2.2.1 < r.2.2.2)
def ckB (r : Rc) : Bool := (decide (0 ≤ r.1) && (decide (r.1 ≤ r.2.1) && decide (r.2.1 ≤ 12000))) && (decide (0 ≤ r.2.2.1) && (decide (r.2.2.1 ≤ r.2.2.2) && decide (r.2.2.2 ≤ 17179869184)))
def ckE (r : Rc) : Int := if ckB r then 0 else 1
def siz (r : Rc) : Int := (r.2.1 - r.1) * (r.2.2.2 - r.2.2.1)
def comR (a b : Rc) : Rc := (max a.1 b.1, min a.2.1 b.2.1, max a.2.2.1 b.2.2.1, min a.2.2.2 b.2.2.2)
def comB (a b : Rc) : Bool := ptB (comR a b)
def comV (a b : Rc) : Rc := if comB a b then comR a b else (0, 0, 0, 0)
def wiB (a b : Rc) : Bool := !ptB a || (decide (b.1 ≤ a.1) && (decide (a.2.1 ≤ b.2.1) && (decide (b.2.2.1 ≤ a.2.2.1) && decide (a.2.2.2 ≤ b.2.2.2))))
theorem inR_iff {r : Rc} {x y : Int} : inR r x y = true ↔ (r.1 ≤ x ∧ x < r.2.1) ∧ r.2.2.1 ≤ y ∧ y < r.2.2.2 := by unfold inR; simp only [Bool.and_eq_true, decide_eq_true_iff]
theorem ptB_iff {r : Rc} : ptB r = true ↔ r.1 < r.2.1 ∧ r.2.2.1 < r.2.2.2 := by unfold ptB; simp only [Bool.and_eq_true, decide_eq_true_iff]
theorem ckB_iff {r : Rc} : ckB r = true ↔ (0 ≤ r.1 ∧ r.1 ≤ r.2.1 ∧ r.2.1 ≤ 12000) ∧ 0 ≤ r.2.2.1 ∧ r.2.2.1 ≤ r.2.2.2 ∧ r.2.2.2 ≤ 17179869184 := by unfold ckB; simp only [Bool.and_eq_true, decide_eq_true_iff]
theorem ckE_iff {r : Rc} : ckE r = 0 ↔ ckB r = true := by unfold ckE; cases ckB r <;> simp
theorem pt_in {r : Rc} (h : ptB r = true) : inR r r.1 r.2.2.1 = true := inR_iff.mpr (by have := ptB_iff.mp h; omega)
theorem in_pt {r : Rc} {x y : Int} (h : inR r x y = true) : ptB r = true := ptB_iff.mpr (by have := inR_iff.mp h; omega)
theorem in_com (a b : Rc) (x y : Int) : inR (comR a b) x y = (inR a x y && inR b x y) := by
  rw [Bool.eq_iff_iff, Bool.and_eq_true, inR_iff, inR_iff, inR_iff]
  unfold comR
  simp only
  omega
theorem com_sym (a b : Rc) : comR a b = comR b a := by
  unfold comR
  rw [show max a.1 b.1 = max b.1 a.1 by omega, show min a.2.1 b.2.1 = min b.2.1 a.2.1 by omega, show max a.2.2.1 b.2.2.1 = max b.2.2.1 a.2.2.1 by omega, show min a.2.2.2 b.2.2.2 = min b.2.2.2 a.2.2.2 by omega]
theorem comB_sym (a b : Rc) : comB a b = comB b a := by unfold comB; rw [com_sym]
theorem comV_sym (a b : Rc) : comV a b = comV b a := by unfold comV; rw [comB_sym, com_sym]
/-- What has common points has points. -/
theorem com_pts {a b : Rc} (h : comB a b = true) : ptB a = true ∧ ptB b = true := by
  have := pt_in h
  rw [in_com, Bool.and_eq_true] at this
  exact ⟨in_pt this.1, in_pt this.2⟩
theorem com_all (a b : Rc) : comB a b = (ptB a && (ptB b && ptB (comR a b))) := by
  cases h : comB a b with
  | true =>
    obtain ⟨h1, h2⟩ := com_pts h
    rw [h1, h2, Bool.true_and, Bool.true_and]
    exact h.symm
  | false =>
    have : ptB (comR a b) = false := h
    rw [this, Bool.and_false, Bool.and_false]
theorem in_comV (a b : Rc) (x y : Int) : inR (comV a b) x y = (inR a x y && inR b x y) := by
  unfold comV
  split
  · exact in_com a b x y
  · rename_i h
    rw [← in_com]
    have h1 : inR (comR a b) x y = false := by
      cases hc : inR (comR a b) x y with
      | false => rfl
      | true => exact absurd (in_pt hc) h
    rw [h1]
    cases hc : inR (0, 0, 0, 0) x y with
    | false => rfl
    | true => have := inR_iff.mp hc; simp only at this; omega
theorem com_ck {a b : Rc} (ha : ckB a = true) (hb : ckB b = true) (h : comB a b = true) : ckB (comR a b) = true := by
  have h1 := ckB_iff.mp ha
  have h2 := ckB_iff.mp hb
  have h3 := ptB_iff.mp h
  rw [ckB_iff]
  unfold comR at *
  simp only at *
  omega
theorem wi_com {a b : Rc} (h : comB a b = true) : wiB (comR a b) a = true ∧ wiB (comR a b) b = true := by
  constructor
  · unfold wiB comR
    simp only [Bool.or_eq_true, Bool.and_eq_true, decide_eq_true_iff]
    right; omega
  · unfold wiB comR
    simp only [Bool.or_eq_true, Bool.and_eq_true, decide_eq_true_iff]
    right; omega
/-- Within, point by point. -/
theorem wi_iff (a b : Rc) : wiB a b = true ↔ ∀ x y, inR a x y = true → inR b x y = true := by
  constructor
  · intro h x y hi
    have hp := in_pt hi
    unfold wiB at h
    rw [hp, Bool.not_true, Bool.false_or] at h
    simp only [Bool.and_eq_true, decide_eq_true_iff] at h
    have := inR_iff.mp hi
    rw [inR_iff]; omega
  · intro h
    unfold wiB
    cases hp : ptB a with
    | false => rfl
    | true =>
      have hp' := ptB_iff.mp hp
      have h1 := inR_iff.mp (h a.1 a.2.2.1 (inR_iff.mpr (by omega)))
      have h2 := inR_iff.mp (h (a.2.1 - 1) (a.2.2.2 - 1) (inR_iff.mpr (by omega)))
      simp only [Bool.not_true, Bool.false_or, Bool.and_eq_true, decide_eq_true_iff]
      omega

/-! ### Areas -/
def b2 (b : Bool) : Int := if b then 1 else 0
theorem b2_pos (b : Bool) : 0 ≤ b2 b ∧ b2 b ≤ 1 := by cases b <;> decide
/-- The area of a rectangle is the number of its points. -/
theorem ar_rect {r : Rc} (h : ckB r = true) : ar (fun x y => b2 (inR r x y)) = siz r := by
  have hk := ckB_iff.mp h
  unfold ar siz
  rw [sI_part (k := r.2.1 - r.1) (u := r.2.2.1) (v := r.2.2.2) hk.2.1 hk.2.2.1 hk.2.2.2 (fun y h0 h1 => ?_) fun y h0 h1 h2 => ?_]
  · rw [sI_part (k := 1) (u := r.1) (v := r.2.1) hk.1.1 hk.1.2.1 hk.1.2.2 (fun x k0 k1 => ?_) fun x k0 k1 k2 => ?_, Int.one_mul]
    · show b2 (inR r x y) = 1
      rw [inR_iff.mpr ⟨⟨k0, k1⟩, h0, h1⟩]; rfl
    · have : inR r x y = false := by
        cases hc : inR r x y with
        | false => rfl
        | true => have := inR_iff.mp hc; omega
      show b2 (inR r x y) = 0
      rw [this]; rfl
  · refine sI_zero fun x k0 k1 => ?_
    have : inR r x y = false := by
      cases hc : inR r x y with
      | false => rfl
      | true => have := inR_iff.mp hc; omega
    show b2 (inR r x y) = 0
    rw [this]; rfl
def inL (L : List Rc) (x y : Int) : Bool := L.any fun r => inR r x y
/-- The points that are in at least one. -/
def cv (L : List Rc) : Int := ar fun x y => b2 (inL L x y)
/-- The points of r that are in none. -/
def rs (r : Rc) (L : List Rc) : Int := ar fun x y => b2 (inR r x y && !inL L x y)
def clp (r : Rc) (L : List Rc) : List Rc := L.filterMap fun s => if comB s r then some (comR s r) else none
def sumA : List Rc → Int
  | [] => 0
  | r :: L => siz r + sumA L
theorem inL_nil (x y : Int) : inL [] x y = false := rfl
theorem inL_cons (r : Rc) (L : List Rc) (x y : Int) : inL (r :: L) x y = (inR r x y || inL L x y) := rfl
theorem inL_snoc (r : Rc) (L : List Rc) (x y : Int) : inL (L ++ [r]) x y = (inL L x y || inR r x y) := by unfold inL; simp
theorem inL_iff {L : List Rc} {x y : Int} : inL L x y = true ↔ ∃ r ∈ L, inR r x y = true := List.any_eq_true
theorem inL_clp (r : Rc) (x y : Int) : ∀ L : List Rc, inL (clp r L) x y = (inL L x y && inR r x y)
  | [] => rfl
  | s :: L => by
    have ih := inL_clp r x y L
    unfold clp at ih ⊢
    rw [inL_cons, List.filterMap_cons]
    by_cases hc : comB s r = true
    · rw [if_pos hc]
      simp only
      rw [inL_cons, in_com, ih]
      cases inR s x y <;> cases inR r x y <;> cases inL L x y <;> rfl
    · rw [if_neg hc]
      simp only
      rw [ih]
      have h1 : (inR s x y && inR r x y) = false := by
        cases hk : (inR s x y && inR r x y) with
        | false => rfl
        | true => rw [← in_com] at hk; exact absurd (in_pt hk) hc
      cases h2 : inR s x y <;> cases h3 : inR r x y <;> cases inL L x y <;> first | rfl | (rw [h2, h3] at h1; cases h1)
theorem cv_nil : cv [] = 0 := ar_zero fun x y _ _ _ _ => rfl
theorem cv_pos (L : List Rc) : 0 ≤ cv L := ar_pos fun x y _ _ _ _ => (b2_pos _).1
theorem cv_le (L : List Rc) : cv L ≤ MW * ML := by
  rw [← ar_one]
  exact ar_le fun x y _ _ _ _ => (b2_pos _).2
theorem rs_pos (r : Rc) (L : List Rc) : 0 ≤ rs r L := ar_pos fun x y _ _ _ _ => (b2_pos _).1
/-- A list and one more rectangle. -/
theorem cv_snoc (L : List Rc) (r : Rc) : cv (L ++ [r]) = cv L + rs r L := by
  unfold cv rs
  rw [← ar_plus]
  refine ar_congr fun x y _ _ _ _ => ?_
  rw [inL_snoc]
  cases inL L x y <;> cases inR r x y <;> rfl
theorem cv_cons (L : List Rc) (r : Rc) : cv (r :: L) = cv L + rs r L := by
  rw [← cv_snoc]
  unfold cv
  refine ar_congr fun x y _ _ _ _ => ?_
  rw [inL_cons, inL_snoc, Bool.or_comm]
/-- What is left of a rectangle. -/
theorem rs_is {r : Rc} (h : ckB r = true) (L : List Rc) : rs r L = siz r - cv (clp r L) := by
  have e : ar (fun x y => b2 (inR r x y)) = rs r L + cv (clp r L) := by
    unfold rs cv
    rw [← ar_plus]
    refine ar_congr fun x y _ _ _ _ => ?_
    rw [inL_clp]
    cases inL L x y <;> cases inR r x y <;> rfl
  rw [ar_rect h] at e
  omega
theorem cv_one {r : Rc} (h : ckB r = true) : cv [r] = siz r := by
  rw [← ar_rect h]
  unfold cv
  exact ar_congr fun x y _ _ _ _ => by rw [inL_cons, inL_nil, Bool.or_false]
theorem siz_pos {r : Rc} (h : ckB r = true) : 0 ≤ siz r := by
  have := ckB_iff.mp h
  exact Int.mul_nonneg (by omega) (by omega)
/-- Two rectangles. -/
theorem cv_two {a b : Rc} (ha : ckB a = true) (hb : ckB b = true) : cv [a, b] = siz a + siz b - siz (comV a b) := by
  have h1 := cv_snoc [a] b
  rw [cv_one ha, rs_is hb] at h1
  have h2 : cv (clp b [a]) = siz (comV a b) := by
    unfold clp comV
    rw [List.filterMap_cons]
    by_cases hc : comB a b = true
    · rw [if_pos hc, if_pos hc]
      exact cv_one (com_ck ha hb hc)
    · rw [if_neg hc, if_neg hc]
      exact cv_nil
  rw [h2] at h1
  have : [a, b] = [a] ++ [b] := rfl
  rw [this, h1]; omega
theorem comV_pos {a b : Rc} (ha : ckB a = true) (hb : ckB b = true) : comB a b = decide (0 < siz (comV a b)) := by
  unfold comV
  by_cases hc : comB a b = true
  · rw [if_pos hc, hc]
    have := ptB_iff.mp hc
    symm
    rw [decide_eq_true_iff]
    exact Int.mul_pos (by omega) (by omega)
  · rw [if_neg hc]
    rw [Bool.not_eq_true] at hc
    rw [hc]; rfl
#print axioms ar_rect
#print axioms cv_two
#print axioms wi_iff
end Go.Proofs.Ytccbnobpighckaa.Rect
