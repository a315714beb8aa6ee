/- Lists of rectangles: errors, disjoint lists, the sweep over the ends, how often a point lies in them (pure). -/
import Derived.Test.YtccbnobpighckaaRectB
namespace Go.Proofs.Ytccbnobpighckaa.Rect
set_option linter.unusedVariables false

/-! ### Errors -/
def lsE (L : List Rc) : Int := if 64 < L.length then 8 else if L.all ckB then 0 else 1
theorem lsE_full {L : List Rc} (h : 64 < L.length) : lsE L = 8 := if_pos h
theorem lsE_bad {L : List Rc} (h : ¬ 64 < L.length) {k : Nat} {r : Rc} (hr : L[k]? = some r) (hb : ckB r = false) : lsE L = 1 := by
  unfold lsE
  have : ¬ L.all ckB = true := fun ha => by
    have := List.all_eq_true.mp ha r (List.mem_of_getElem? hr)
    rw [hb] at this; cases this
  rw [if_neg h, if_neg this]
theorem lsE_ok {L : List Rc} (h : ¬ 64 < L.length) (ha : ∀ (k : Nat) (r : Rc), L[k]? = some r → ckB r = true) : lsE L = 0 := by
  unfold lsE
  have : L.all ckB = true := List.all_eq_true.mpr fun r hr => by
    obtain ⟨k, hk⟩ := List.mem_iff_getElem?.mp hr
    exact ha k r hk
  rw [if_neg h, if_pos this]
theorem lsE_of {L : List Rc} (h : lsE L = 0) : L.length ≤ 64 ∧ ∀ r ∈ L, ckB r = true := by
  unfold lsE at h
  by_cases h1 : 64 < L.length
  · rw [if_pos h1] at h; cases h
  · rw [if_neg h1] at h
    by_cases h2 : L.all ckB = true
    · exact ⟨by omega, fun r hr => List.all_eq_true.mp h2 r hr⟩
    · rw [if_neg h2] at h; cases h
theorem clp_snoc (r s : Rc) (L : List Rc) : clp r (L ++ [s]) = clp r L ++ (if comB s r then [comR s r] else []) := by
  unfold clp
  rw [List.filterMap_append]
  congr 1
  rw [List.filterMap_cons]
  by_cases h : comB s r = true
  · rw [if_pos h, if_pos h]; rfl
  · rw [if_neg h, if_neg h]; rfl
theorem clp_len (r : Rc) (L : List Rc) : (clp r L).length ≤ L.length := List.length_filterMap_le _ _
theorem clp_ck {r : Rc} {L : List Rc} (hr : ckB r = true) (hL : ∀ s ∈ L, ckB s = true) : ∀ s ∈ clp r L, ckB s = true := by
  intro s hs
  unfold clp at hs
  obtain ⟨t, ht, he⟩ := List.mem_filterMap.mp hs
  by_cases hc : comB t r = true
  · rw [if_pos hc] at he; cases he; exact com_ck (hL t ht) hr hc
  · rw [if_neg hc] at he; cases he

/-! ### Disjoint -/
def dis : List Rc → Bool
  | [] => true
  | r :: L => L.all (fun s => !comB r s) && dis L
theorem dis_iff : ∀ {L : List Rc}, dis L = true ↔ ∀ (i k : Nat) (r s : Rc), k < i → L[i]? = some r → L[k]? = some s → comB r s = false
  | [] => ⟨fun _ i k r s _ h => by simp at h, fun _ => rfl⟩
  | r :: L => by
    rw [dis, Bool.and_eq_true, dis_iff (L := L), List.all_eq_true]
    constructor
    · rintro ⟨h1, h2⟩ i k x y hk hx hy
      cases i with
      | zero => omega
      | succ i =>
        rw [List.getElem?_cons_succ] at hx
        cases k with
        | zero =>
          simp at hy; subst hy
          have := h1 x (List.mem_of_getElem? hx)
          rw [comB_sym]; simpa using this
        | succ k =>
          rw [List.getElem?_cons_succ] at hy
          exact h2 i k x y (by omega) hx hy
    · intro h
      refine ⟨fun s hs => ?_, fun i k x y hk hx hy => h (i + 1) (k + 1) x y (by omega) (by rw [List.getElem?_cons_succ]; exact hx) (by rw [List.getElem?_cons_succ]; exact hy)⟩
      obtain ⟨k, hk⟩ := List.mem_iff_getElem?.mp hs
      have := h (k + 1) 0 s r (by omega) (by rw [List.getElem?_cons_succ]; exact hk) rfl
      rw [comB_sym] at this
      rw [this]; rfl
theorem dis_not {L : List Rc} {i k : Nat} {r s : Rc} (hk : k < i) (hr : L[i]? = some r) (hs : L[k]? = some s) (hc : comB r s = true) : dis L = false := by
  cases hd : dis L with
  | false => rfl
  | true => rw [dis_iff.mp hd i k r s hk hr hs] at hc; cases hc
/-- How often a point lies in them. -/
def mu (L : List Rc) (x y : Int) : Int := match L with
  | [] => 0
  | r :: L => b2 (inR r x y) + mu L x y
theorem mu_pos : ∀ (L : List Rc) (x y : Int), 0 ≤ mu L x y
  | [], _, _ => Int.le_refl _
  | r :: L, x, y => by have := mu_pos L x y; have := b2_pos (inR r x y); unfold mu; omega
theorem mu_in : ∀ (L : List Rc) (x y : Int), b2 (inL L x y) ≤ mu L x y
  | [], _, _ => Int.le_refl _
  | r :: L, x, y => by
    have h1 := mu_in L x y
    have h2 := mu_pos L x y
    unfold mu
    rw [inL_cons]
    cases inR r x y <;> cases hl : inL L x y <;> rw [hl] at h1 <;> simp [b2] at * <;> omega
theorem mu_zero {L : List Rc} {x y : Int} (h : inL L x y = false) : mu L x y = 0 := by
  induction L with
  | nil => rfl
  | cons r L ih =>
    rw [inL_cons, Bool.or_eq_false_iff] at h
    unfold mu
    rw [h.1, ih h.2]; rfl
theorem mu_iff {L : List Rc} {x y : Int} : inL L x y = true ↔ 0 < mu L x y := by
  constructor
  · intro h
    have := mu_in L x y
    rw [h] at this
    have e : b2 true = 1 := rfl
    omega
  · intro h
    cases hi : inL L x y with
    | true => rfl
    | false => rw [mu_zero hi] at h; omega
theorem mu_snoc (r : Rc) (x y : Int) : ∀ L : List Rc, mu (L ++ [r]) x y = mu L x y + b2 (inR r x y)
  | [] => by simp [mu]
  | s :: L => by rw [List.cons_append, mu, mu, mu_snoc r x y L]; omega
theorem mu_clp (r : Rc) (x y : Int) : ∀ L : List Rc, mu (clp r L) x y = if inR r x y then mu L x y else 0
  | [] => by unfold clp; simp [mu]
  | s :: L => by
    have ih := mu_clp r x y L
    unfold clp at ih ⊢
    rw [List.filterMap_cons]
    by_cases hc : comB s r = true
    · rw [if_pos hc]
      simp only
      rw [mu, mu, ih, in_com]
      cases inR s x y <;> cases inR r x y <;> simp [b2]
    · rw [if_neg hc]
      simp only
      rw [mu, ih]
      have h1 : (inR s x y && inR r x y) = false := by
        cases hk : (inR s x y && inR r x y) with
        | false => rfl
        | true => rw [← in_com] at hk; exact absurd (in_pt hk) hc
      cases h2 : inR s x y <;> cases h3 : inR r x y <;> first | (exfalso; rw [h2, h3] at h1; exact absurd h1 (by decide)) | simp [b2]
theorem ar_mu : ∀ {L : List Rc}, (∀ r ∈ L, ckB r = true) → ar (mu L) = sumA L
  | [], _ => ar_zero fun x y _ _ _ _ => rfl
  | r :: L, h => by
    have e : ar (mu (r :: L)) = ar (fun x y => b2 (inR r x y) + mu L x y) := ar_congr fun x y _ _ _ _ => rfl
    rw [e, ar_plus, ar_rect (h r (by simp)), ar_mu fun s hs => h s (by simp [hs])]
    rfl
theorem cv_sum {L : List Rc} (h : ∀ r ∈ L, ckB r = true) : cv L ≤ sumA L := by
  rw [← ar_mu h]
  exact ar_le fun x y _ _ _ _ => mu_in L x y
theorem dis_mu : ∀ {L : List Rc}, dis L = true → ∀ x y, mu L x y = b2 (inL L x y)
  | [], _, _, _ => rfl
  | r :: L, h, x, y => by
    rw [dis, Bool.and_eq_true, List.all_eq_true] at h
    have ih := dis_mu h.2 x y
    rw [mu, inL_cons, ih]
    cases h1 : inR r x y with
    | false => simp [b2]
    | true =>
      cases h2 : inL L x y with
      | false => rfl
      | true =>
        obtain ⟨s, hs, hi⟩ := inL_iff.mp h2
        have h3 := h.1 s hs
        have h4 : inR (comR r s) x y = true := by rw [in_com, h1, hi]; rfl
        have h5 : comB r s = true := in_pt h4
        rw [h5] at h3; cases h3
theorem mu_two : ∀ {L : List Rc} {i k : Nat} {r s : Rc} {x y : Int}, k < i → L[i]? = some r → L[k]? = some s → inR r x y = true → inR s x y = true → 2 ≤ mu L x y
  | [], i, k, r, s, x, y, _, h, _, _, _ => by simp at h
  | t :: L, i, k, r, s, x, y, hk, hr, hs, h1, h2 => by
    cases i with
    | zero => omega
    | succ i =>
      rw [List.getElem?_cons_succ] at hr
      cases k with
      | zero =>
        simp at hs; subst hs
        have h3 : inL L x y = true := inL_iff.mpr ⟨r, List.mem_of_getElem? hr, h1⟩
        have h4 := mu_iff.mp h3
        rw [mu, h2]
        have e : b2 true = 1 := rfl
        omega
      | succ k =>
        rw [List.getElem?_cons_succ] at hs
        have := mu_two (L := L) (by omega) hr hs h1 h2
        have := b2_pos (inR t x y)
        rw [mu]; omega
/-- Disjoint exactly if the areas add up. -/
theorem dis_sum {L : List Rc} (h : ∀ r ∈ L, ckB r = true) : dis L = decide (cv L = sumA L) := by
  rw [Bool.eq_iff_iff, decide_eq_true_iff]
  constructor
  · intro hd
    rw [← ar_mu h]
    exact ar_congr fun x y _ _ _ _ => (dis_mu hd x y).symm
  · intro he
    rw [← ar_mu h] at he
    have hp := ar_same (fun x y _ _ _ _ => mu_in L x y) he
    rw [dis_iff]
    intro i k r s hk hr hs
    cases hc : comB r s with
    | false => rfl
    | true =>
      have h1 := pt_in hc
      rw [in_com, Bool.and_eq_true] at h1
      have h2 := mu_two hk hr hs h1.1 h1.2
      have h3 := ckB_iff.mp (h r (List.mem_of_getElem? hr))
      have h4 := ckB_iff.mp (h s (List.mem_of_getElem? hs))
      have h5 := inR_iff.mp h1.1
      have h6 := inR_iff.mp h1.2
      have q1 : (comR r s).1 < 12000 := by omega
      have q2 : (comR r s).2.2.1 < 17179869184 := by omega
      have h7 := hp (comR r s).1 (comR r s).2.2.1 (by omega) q1 (by omega) q2
      have h8 := b2_pos (inL L (comR r s).1 (comR r s).2.2.1)
      omega

/-! ### From end to end -/
/-- n: no end along lies between y and n. -/
def NxY (L : List Rc) (y n : Int) : Prop := (y < n ∧ n ≤ ML) ∧ ∀ r ∈ L, (y < r.2.2.1 → n ≤ r.2.2.1) ∧ (y < r.2.2.2 → n ≤ r.2.2.2)
def NxX (L : List Rc) (x n : Int) : Prop := (x < n ∧ n ≤ ML) ∧ ∀ r ∈ L, (x < r.1 → n ≤ r.1) ∧ (x < r.2.1 → n ≤ r.2.1)
theorem any_congr {L : List Rc} {p q : Rc → Bool} (h : ∀ r ∈ L, p r = q r) : L.any p = L.any q := by
  induction L with
  | nil => rfl
  | cons r L ih => rw [List.any_cons, List.any_cons, h r (by simp), ih fun s hs => h s (by simp [hs])]
theorem NxY.same {L : List Rc} {y n i : Int} (h : NxY L y n) (h0 : y ≤ i) (h1 : i < n) (x : Int) : inL L x i = inL L x y := by
  refine any_congr fun r hr => ?_
  have := h.2 r hr
  rw [Bool.eq_iff_iff, inR_iff, inR_iff]
  omega
theorem NxX.same {L : List Rc} {x n i : Int} (h : NxX L x n) (h0 : x ≤ i) (h1 : i < n) (y : Int) : inL L i y = inL L x y := by
  refine any_congr fun r hr => ?_
  have := h.2 r hr
  rw [Bool.eq_iff_iff, inR_iff, inR_iff]
  omega
/-- What is covered at y, up to x. -/
def rowTo (L : List Rc) (y x : Int) : Int := sI (fun x => b2 (inL L x y)) 0 x
/-- What is covered up to y. -/
def colTo (L : List Rc) (y : Int) : Int := sI (fun y => rowTo L y MW) 0 y
theorem cv_col (L : List Rc) : cv L = colTo L ML := rfl
theorem rowTo_zero (L : List Rc) (y : Int) : rowTo L y 0 = 0 := sI_nil _ _
theorem colTo_zero (L : List Rc) : colTo L 0 = 0 := sI_nil _ _
theorem rowTo_step {L : List Rc} {x n m y : Int} (h : NxX L x n) (hx : 0 ≤ x) (hxm : x ≤ m) (hm : m ≤ n) : rowTo L y m = rowTo L y x + (if inL L x y then m - x else 0) := by
  unfold rowTo
  rw [sI_split _ hx hxm]
  congr 1
  have := sI_const (f := fun x => b2 (inL L x y)) (b2 (inL L x y)) hxm fun i h0 h1 => by
    show b2 (inL L i y) = b2 (inL L x y)
    rw [h.same h0 (by omega)]
  rw [this]
  cases inL L x y <;> simp [b2]
theorem colTo_step {L : List Rc} {y n : Int} (h : NxY L y n) (hy : 0 ≤ y) : colTo L n = colTo L y + rowTo L y MW * (n - y) := by
  have e : sI (fun y => rowTo L y MW) y n = rowTo L y MW * (n - y) := by
    refine sI_const _ (Int.le_of_lt h.1.1) fun i h0 h1 => ?_
    show rowTo L i MW = rowTo L y MW
    unfold rowTo
    exact sI_congr fun x _ _ => by rw [h.same h0 h1]
  unfold colTo
  rw [sI_split _ hy (Int.le_of_lt h.1.1), e]
theorem rowTo_lim (L : List Rc) (y : Int) {x : Int} (hx : 0 ≤ x) : 0 ≤ rowTo L y x ∧ rowTo L y x ≤ x := by
  constructor
  · exact sI_pos fun i _ _ => (b2_pos _).1
  · have h1 : rowTo L y x ≤ sI (fun _ => 1) 0 x := sI_le fun i _ _ => (b2_pos _).2
    rw [sI_const 1 hx fun _ _ _ => rfl] at h1
    omega
theorem colTo_lim (L : List Rc) {y : Int} (hy : 0 ≤ y) : 0 ≤ colTo L y ∧ colTo L y ≤ MW * y := by
  constructor
  · exact sI_pos fun i _ _ => (rowTo_lim L i (by decide)).1
  · have h1 : colTo L y ≤ sI (fun _ => MW) 0 y := sI_le fun i _ _ => (rowTo_lim L i (by decide)).2
    rw [sI_const MW hy fun _ _ _ => rfl, Int.sub_zero] at h1
    exact h1
#print axioms dis_sum
#print axioms mu_clp
#print axioms colTo_step
end Go.Proofs.Ytccbnobpighckaa.Rect
