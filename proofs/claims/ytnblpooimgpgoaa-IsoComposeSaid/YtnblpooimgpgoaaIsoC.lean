/- Piecewise isometries: places, the steps of a composition, what is found in a run; consequences. Pure. -/
import Derived.Test.YtnblpooimgpgoaaIsoB
namespace Go.Proofs.Ytnblpooimgpgoaa.Iso
open Go.Proofs.Ytnblpooimgpgoaa.Span (inS inS_iff hasB hasB_iff IsNf Nrm)
set_option linter.unusedVariables false

section
variable {r o : Rn} {m p : List Rn} {k i : Nat} {x : Int}
theorem split_at (h : m[i]? = some r) : m = m.take i ++ r :: m.drop (i + 1) := by
  have hi := lt_of_get h
  conv => lhs; rw [← List.take_append_drop i m]
  rw [List.drop_eq_getElem_cons hi]
  rw [List.getElem?_eq_getElem hi] at h
  rw [Option.some.inj h]
theorem take_pos (h : ∀ r ∈ m, 1 ≤ r.2.1) : ∀ r ∈ m.take i, 1 ≤ r.2.1 := fun r hr => h r (List.mem_of_mem_take hr)
theorem lenM_take (h : m[i]? = some r) : lenM (m.take (i + 1)) = lenM (m.take i) + r.2.1 := by
  rw [List.take_add_one, h]; exact lenM_snoc _ _
theorem lenM_le (h : ∀ r ∈ m, 1 ≤ r.2.1) (i : Nat) : 0 ≤ lenM (m.take i) ∧ lenM (m.take i) ≤ lenM m := by
  have h1 := lenM_nonneg (take_pos (i := i) h)
  have h2 : lenM m = lenM (m.take i) + lenM (m.drop i) := by rw [← lenM_append, List.take_append_drop]
  have h3 := lenM_nonneg (m := m.drop i) fun r hr => h r (List.mem_of_mem_drop hr)
  omega
/-- Where an integer lies. -/
theorem place_hit (h : ∀ r ∈ m, 1 ≤ r.2.1) (hr : m[i]? = some r) (h1 : lenM (m.take i) ≤ x) (h2 : x < lenM (m.take i) + r.2.1) : atM m x = some (im r (x - lenM (m.take i)).toNat) := by
  have hl := ex_len (take_pos (i := i) h)
  have h0 := lenM_nonneg (take_pos (i := i) h)
  unfold atM
  rw [if_neg (by omega)]
  conv => lhs; rw [split_at hr]
  have e : x.toNat = (ex (m.take i)).length + (x - lenM (m.take i)).toNat := by omega
  rw [e]
  exact ex_at _ _ _ (by omega)
/-- The first n images of a run. -/
theorem exR_take {n : Int} (h1 : 0 ≤ n) (h2 : n ≤ r.2.1) : exR (r.1, n, r.2.2) = (exR r).take n.toNat := by
  have h := cutR_ex (r := r) (k := 0) h1 (by omega)
  rw [List.drop_zero] at h
  rw [← h]
  unfold cutR
  rw [im_zero]
theorem exR_split {n : Int} (h1 : 0 ≤ n) (h2 : n ≤ r.2.1) : exR r = exR (r.1, n, r.2.2) ++ exR (cutR r n.toNat (r.2.1 - n)) := by
  rw [exR_take h1 h2, cutR_ex (by omega) (by omega)]
  have e : ((exR r).drop n.toNat).take (r.2.1 - n).toNat = (exR r).drop n.toNat := List.take_of_length_le (by rw [List.length_drop, exR_len]; omega)
  rw [e, List.take_append_drop]
/-- A piece of a run that stays within one run of the outer map. -/
theorem comp_seg {a n : Int} {b : Bool} (h : ∀ r ∈ m, 1 ≤ r.2.1) (ho : m[i]? = some o) (h0 : lenM (m.take i) ≤ a) (h1 : a < lenM (m.take i) + o.2.1) (hn : 1 ≤ n) (hup : b = false → n ≤ o.2.1 - (a - lenM (m.take i))) (hdn : b = true → n ≤ a - lenM (m.take i) + 1) :
    comp (exR (a, n, b)) m = some (exR (im o (a - lenM (m.take i)).toNat, n, if b then !o.2.2 else o.2.2)) := by
  rw [comp_some]
  refine ⟨by rw [exR_len, exR_len], fun k y hy => ?_⟩
  have hk : k < n.toNat := by have := lt_of_get hy; rwa [exR_len] at this
  rw [exR_at (r := (a, n, b)) hk] at hy
  have hy2 := Option.some.inj hy
  subst hy2
  refine ⟨_, ?_, exR_at (r := (im o (a - lenM (m.take i)).toNat, n, if b then !o.2.2 else o.2.2)) hk⟩
  cases b with
  | false =>
    have := hup rfl
    have e : im (a, n, false) k = a + k := by unfold im; rfl
    rw [e, place_hit h ho (by omega) (by omega)]
    congr 1
    have e2 : (a + (k : Int) - lenM (m.take i)).toNat = (a - lenM (m.take i)).toNat + k := by omega
    rw [e2]
    unfold im
    simp only
    cases o.2.2 <;> simp <;> omega
  | true =>
    have := hdn rfl
    have e : im (a, n, true) k = a - k := by unfold im; rfl
    rw [e, place_hit h ho (by omega) (by omega)]
    congr 1
    have e2 : ((a - (k : Int) - lenM (m.take i)).toNat : Int) = ((a - lenM (m.take i)).toNat : Int) - k := by omega
    unfold im
    simp only
    cases o.2.2 <;> simp <;> omega

/-! ### Sets of images and what is found -/
theorem img_has (h : ∀ r ∈ m, 1 ≤ r.2.1) (x : Int) : hasB (m.map spR) x = imgB m x := by
  rw [Bool.eq_iff_iff, hasB_iff]
  unfold imgB
  rw [decide_eq_true_iff, mem_ex]
  constructor
  · rintro ⟨s, hs, h1, h2⟩
    obtain ⟨r, hr, rfl⟩ := List.mem_map.mp hs
    exact ⟨r, hr, (spR_iff (h r hr)).mp (inS_iff.mpr ⟨h1, h2⟩)⟩
  · rintro ⟨r, hr, hx⟩
    have := inS_iff.mp ((spR_iff (h r hr)).mpr hx)
    exact ⟨spR r, List.mem_map.mpr ⟨r, hr, rfl⟩, this.1, this.2⟩
/-- The part of a run whose images are in s: from .. to. -/
def frR (r : Rn) (s : Int × Int) : Int := if r.2.2 then max 0 (r.1 - s.2 + 1) else max 0 (s.1 - r.1)
def toR (r : Rn) (s : Int × Int) : Int := if r.2.2 then min r.2.1 (r.1 - s.1 + 1) else min r.2.1 (s.2 - r.1)
theorem fr_to (r : Rn) (s : Int × Int) (k : Int) : (frR r s ≤ k ∧ k < toR r s) ↔ (0 ≤ k ∧ k < r.2.1 ∧ inS s (im r k.toNat) = true) := by
  rw [inS_iff]
  unfold frR toR im
  cases r.2.2 with
  | true => simp only [if_true]; omega
  | false => simp only [Bool.false_eq_true, if_false]; omega
/-- The spans that are found, run by run; those that are empty left out. -/
def fndL (s : Int × Int) : Int → List Rn → List (Int × Int)
  | _, [] => []
  | a, r :: m => if frR r s < toR r s then (a + frR r s, a + toR r s) :: fndL s (a + r.2.1) m else fndL s (a + r.2.1) m
theorem fndL_has (s : Int × Int) : ∀ (m : List Rn) (a x : Int), (∀ r ∈ m, 1 ≤ r.2.1) → (hasB (fndL s a m) x = true ↔ ∃ y, atM m (x - a) = some y ∧ inS s y = true)
  | [], a, x, _ => by
    simp [fndL, hasB, atM, ex]
  | r :: m, a, x, h => by
    have hr := h r (by simp)
    have ih := fndL_has s m (a + r.2.1) x fun t ht => h t (by simp [ht])
    have hfirst : hasB (fndL s a (r :: m)) x = true ↔ ((frR r s ≤ x - a ∧ x - a < toR r s) ∨ hasB (fndL s (a + r.2.1) m) x = true) := by
      rw [fndL]
      by_cases hc : frR r s < toR r s
      · rw [if_pos hc, hasB_iff, hasB_iff]
        constructor
        · rintro ⟨t, ht, h1, h2⟩
          rcases List.mem_cons.mp ht with rfl | ht
          · left; simp only at h1 h2; omega
          · right; exact ⟨t, ht, h1, h2⟩
        · rintro (h1 | ⟨t, ht, h1, h2⟩)
          · exact ⟨_, List.mem_cons_self, by simp only; omega, by simp only; omega⟩
          · exact ⟨t, List.mem_cons_of_mem _ ht, h1, h2⟩
      · rw [if_neg hc]
        constructor
        · intro h1; exact Or.inr h1
        · rintro (h1 | h1)
          · omega
          · exact h1
    rw [hfirst, ih, fr_to]
    have hat : atM (r :: m) (x - a) = if 0 ≤ x - a ∧ x - a < r.2.1 then some (im r (x - a).toNat) else atM m (x - (a + r.2.1)) := by
      by_cases hc : 0 ≤ x - a ∧ x - a < r.2.1
      · rw [if_pos hc]
        unfold atM
        rw [if_neg (by omega)]
        exact ex_in (by omega)
      · rw [if_neg hc]
        unfold atM
        by_cases hn : x - a < 0
        · rw [if_pos hn, if_pos (by omega)]
        · rw [if_neg hn, if_neg (by omega), ex_off (by omega)]
          congr 1
          omega
    rw [hat]
    by_cases hc : 0 ≤ x - a ∧ x - a < r.2.1
    · rw [if_pos hc]
      constructor
      · rintro (⟨_, _, h1⟩ | ⟨y, hy, _⟩)
        · exact ⟨_, rfl, h1⟩
        · unfold atM at hy
          rw [if_pos (by omega)] at hy; cases hy
      · rintro ⟨y, hy, h1⟩
        cases hy
        exact Or.inl ⟨hc.1, hc.2, h1⟩
    · rw [if_neg hc]
      constructor
      · rintro (⟨h1, h2, _⟩ | h1)
        · exact absurd ⟨h1, h2⟩ hc
        · exact h1
      · intro h1; exact Or.inr h1
theorem fnd_has (h : ∀ r ∈ m, 1 ≤ r.2.1) (s : Int × Int) (x : Int) : hasB (fndL s 0 m) x = fndB m s x := by
  rw [Bool.eq_iff_iff, fndL_has s m 0 x h, Int.sub_zero]
  unfold fndB
  cases hx : atM m x with
  | none => simp
  | some y => simp
/-- With all images different, an integer alone is found by its image. -/
theorem fnd_single (hnd : (ex m).Nodup) {y : Int} (hy : atM m x = some y) (z : Int) : fndB m (y, y + 1) z = true ↔ z = x := by
  unfold fndB
  have h0 : ∀ {u v : Int}, atM m u = some v → 0 ≤ u ∧ (ex m)[u.toNat]? = some v := fun {u v} h => by
    unfold atM at h
    by_cases hu : u < 0
    · rw [if_pos hu] at h; cases h
    · rw [if_neg hu] at h; exact ⟨by omega, h⟩
  constructor
  · intro h
    cases hz : atM m z with
    | none => rw [hz] at h; cases h
    | some v =>
      rw [hz] at h
      have hv := inS_iff.mp h
      simp only at hv
      obtain rfl : v = y := by omega
      obtain ⟨z0, z1⟩ := h0 hz
      obtain ⟨x0, x1⟩ := h0 hy
      have hzl := lt_of_get z1
      have hxl := lt_of_get x1
      rw [List.getElem?_eq_getElem hzl] at z1
      rw [List.getElem?_eq_getElem hxl] at x1
      have := (List.getElem_inj hnd).mp ((Option.some.inj z1).trans (Option.some.inj x1).symm)
      omega
  · rintro rfl
    rw [hy]
    exact inS_iff.mpr ⟨by simp only; omega, by simp only; omega⟩

/-! ### Composing is associative -/
theorem comp_at {L R : List Int} (h : comp L m = some R) (k : Nat) : R[k]? = (L[k]?).bind (atM m) := by
  obtain ⟨h1, h2⟩ := comp_some.mp h
  cases hL : L[k]? with
  | none =>
    show R[k]? = none
    rw [List.getElem?_eq_none_iff] at hL ⊢
    omega
  | some z =>
    obtain ⟨y, e1, e2⟩ := h2 k z hL
    rw [e2]; exact e1.symm
theorem atM_get {L : List Int} (he : ex p = L) (h0 : 0 ≤ x) : atM p x = L[x.toNat]? := by unfold atM; rw [if_neg (by omega), he]
/-- a into b into c, whichever pair is composed first. -/
theorem comp_assoc {a b q : List Rn} {X Y U V : List Int} {mx my : List Rn} (hx : comp (ex a) b = some X) (hy : comp (ex b) q = some Y) (ex1 : ex mx = X) (ey1 : ex my = Y) (hu : comp (ex mx) q = some U) (hv : comp (ex a) my = some V) : U = V := by
  apply List.ext_getElem?
  intro k
  rw [comp_at hu, comp_at hv, ex1, comp_at hx]
  cases hz : (ex a)[k]? with
  | none => rfl
  | some z =>
    show (atM b z).bind (atM q) = atM my z
    obtain ⟨y, e1, _⟩ := (comp_some.mp hx).2 k z hz
    have h0 : 0 ≤ z := by
      unfold atM at e1
      by_cases h : z < 0
      · rw [if_pos h] at e1; cases e1
      · omega
    rw [atM_get ey1 h0, comp_at hy, atM_get rfl h0]
end
#print axioms comp_seg
#print axioms fnd_has
#print axioms fnd_single
#print axioms comp_assoc
end Go.Proofs.Ytnblpooimgpgoaa.Iso
