/- Piecewise isometries: what the laws ask of images, in one place. Pure. -/
import Derived.Test.YtnblpooimgpgoaaIsoC
namespace Go.Proofs.Ytnblpooimgpgoaa.Iso
open Go.Proofs.Ytnblpooimgpgoaa.Span (inS inS_iff hasB hasB_iff IsNf Nrm cnt)
set_option linter.unusedVariables false

section
variable {m p a b c q : List Rn} {x : Int}
/-- The image, or -1. -/
def atI (m : List Rn) (x : Int) : Int := match atM m x with
  | some y => y
  | none => -1
theorem atI_some {y : Int} (h : atM m x = some y) : atI m x = y := by unfold atI; rw [h]
theorem atI_none (h : atM m x = none) : atI m x = -1 := by unfold atI; rw [h]
theorem atM_congr (h : ex m = ex p) (x : Int) : atM m x = atM p x := by unfold atM; rw [h]
theorem atI_congr (h : ex m = ex p) (x : Int) : atI m x = atI p x := by unfold atI; rw [atM_congr h]
theorem atM_neg (h : x < 0) : atM m x = none := if_pos h
theorem atM_nn (h : 0 ≤ x) : atM m x = (ex m)[x.toNat]? := if_neg (by omega)
/-- Composed, the image of the image. -/
theorem comp_atI {X : List Int} (h : comp (ex a) b = some X) (hc : ex c = X) (x : Int) : atI c x = atI b (atI a x) := by
  rcases Int.lt_or_le x 0 with hx | hx
  · rw [atI_none (atM_neg hx), atI_none (m := a) (atM_neg hx), atI_none (atM_neg (by omega))]
  · have e : atM c x = ((ex a)[x.toNat]?).bind (atM b) := by rw [atM_nn hx, hc, comp_at h]
    have e2 : atM a x = (ex a)[x.toNat]? := atM_nn hx
    cases hz : (ex a)[x.toNat]? with
    | none =>
      rw [hz] at e e2
      rw [atI_none e, atI_none e2, atI_none (atM_neg (by omega))]
    | some z =>
      rw [hz] at e e2
      rw [atI_some e2]
      unfold atI
      rw [e]; rfl
/-- A part. -/
theorem win_atI {f t : Nat} (hp : ex p = win (ex a) f t) (h0 : 0 ≤ x) (h1 : x < (t : Int) - f) : atI p x = atI a (f + x) := by
  have e : atM p x = atM a (f + x) := by
    rw [atM_nn h0, atM_nn (by omega), hp, win_at (by omega)]
    congr 1
    omega
  unfold atI; rw [e]
/-- Reversed. -/
theorem rev_atI (hp : ex p = (ex a).reverse) (ha : ∀ r ∈ a, 1 ≤ r.2.1) (h0 : 0 ≤ x) (h1 : x < lenM a) : atI p x = atI a (lenM a - 1 - x) := by
  have hl := ex_len ha
  have e : atM p x = atM a (lenM a - 1 - x) := by
    rw [atM_nn h0, atM_nn (by omega), hp, List.getElem?_reverse (by omega)]
    congr 1
    omega
  unfold atI; rw [e]
/-- Joined. -/
theorem join_atI1 (hp : ex p = ex a ++ ex b) (ha : ∀ r ∈ a, 1 ≤ r.2.1) (h0 : 0 ≤ x) (h1 : x < lenM a) : atI p x = atI a x := by
  have hl := ex_len ha
  have e : atM p x = atM a x := by rw [atM_nn h0, atM_nn h0, hp, List.getElem?_append_left (by omega)]
  unfold atI; rw [e]
theorem join_atI2 (hp : ex p = ex a ++ ex b) (ha : ∀ r ∈ a, 1 ≤ r.2.1) (h1 : lenM a ≤ x) : atI p x = atI b (x - lenM a) := by
  have hl := ex_len ha
  have h2 := lenM_nonneg ha
  have e : atM p x = atM b (x - lenM a) := by
    rw [atM_nn (by omega), atM_nn (by omega), hp, List.getElem?_append_right (by omega)]
    congr 1
    omega
  unfold atI; rw [e]
/-- Reversed twice; the parts joined. -/
theorem nfL_rev2 (h : ex p = (ex m).reverse) : nfL (ex p).reverse = nfL (ex m) := by rw [h, List.reverse_reverse]
theorem nfL_halves {k : Nat} (hk : k ≤ (ex m).length) (ha : ex a = win (ex m) 0 k) (hb : ex b = win (ex m) k (ex m).length) : nfL (ex a ++ ex b) = nfL (ex m) := by rw [ha, hb, win_join _ _ hk]
/-- Chains: the second composition has its images. -/
theorem chain_left {X Y : List Int} (h1 : comp (ex a) b = some X) (h2 : comp (ex b) q = some Y) (hm : ex m = X) : ∃ U, comp (ex m) q = some U := by
  cases hu : comp (ex m) q with
  | some U => exact ⟨U, rfl⟩
  | none =>
    exfalso
    obtain ⟨x, hx, hn⟩ := comp_none hu
    rw [hm] at hx
    obtain ⟨k, hk⟩ := List.mem_iff_getElem?.mp hx
    rw [comp_at h1] at hk
    cases hz : (ex a)[k]? with
    | none => rw [hz] at hk; cases hk
    | some z =>
      rw [hz] at hk
      have hk2 : atM b z = some x := hk
      have hmem : x ∈ ex b := by
        unfold atM at hk2
        split at hk2
        · cases hk2
        · exact List.mem_of_getElem? hk2
      rw [comp_bad hmem hn] at h2; cases h2
theorem chain_right {X Y : List Int} (h1 : comp (ex a) b = some X) (h2 : comp (ex b) q = some Y) (hm : ex m = Y) : ∃ V, comp (ex a) m = some V := by
  cases hu : comp (ex a) m with
  | some V => exact ⟨V, rfl⟩
  | none =>
    exfalso
    obtain ⟨x, hx, hn⟩ := comp_none hu
    obtain ⟨k, hk⟩ := List.mem_iff_getElem?.mp hx
    obtain ⟨y, hy, _⟩ := (comp_some.mp h1).2 k x hk
    have hl := (comp_some.mp h2).1
    unfold atM at hy hn
    by_cases h0 : x < 0
    · rw [if_pos h0] at hy; cases hy
    · rw [if_neg h0] at hy hn
      rw [hm, List.getElem?_eq_none_iff] at hn
      have := lt_of_get hy
      omega
/-- Images of a composition are images of the outer map; as many as of the inner one. -/
theorem comp_range {X : List Int} (h : comp (ex a) b = some X) (hb : Vd b) : (∀ y ∈ X, 0 ≤ y ∧ y < ml) ∧ X.length = (ex a).length := by
  refine ⟨fun y hy => ?_, (comp_some.mp h).1⟩
  obtain ⟨k, hk⟩ := List.mem_iff_getElem?.mp hy
  rw [comp_at h] at hk
  cases hz : (ex a)[k]? with
  | none => rw [hz] at hk; cases hk
  | some z =>
    rw [hz] at hk
    have hk2 : atM b z = some y := hk
    refine hb.range ?_
    unfold atM at hk2
    split at hk2
    · cases hk2
    · exact List.mem_of_getElem? hk2
/-- Single: as many integers in the image as in the domain. -/
theorem single_iff (hm : Vd m) : cnt (imgB m) 17179869184 ≤ lenM m ∧ (cnt (imgB m) 17179869184 = lenM m ↔ (ex m).Nodup) := by
  have h := cnt_mem 17179869184 (L := ex m) fun x hx => by have := hm.range hx; exact ⟨this.1, by have := this.2; show x < 17179869184; exact this⟩
  have hl := ex_len hm.pos
  have e : cnt (imgB m) 17179869184 = cnt (fun y => decide (y ∈ ex m)) 17179869184 := rfl
  rw [e]
  refine ⟨by omega, ?_⟩
  rw [← hl]; exact h.2
theorem img_of_at {y : Int} (h : atM m x = some y) : imgB m y = true := by
  unfold imgB
  rw [decide_eq_true_iff]
  unfold atM at h
  split at h
  · cases h
  · exact List.mem_of_getElem? h
theorem fnd_of_at {y : Int} (h : atM m x = some y) : fndB m (y, y + 1) x = true := by
  unfold fndB
  rw [h]
  exact inS_iff.mpr ⟨by simp only; omega, by simp only; omega⟩
/-- What is found lies in the domain; images lie below MaxLength: so the sets are in range. -/
theorem img_range (hm : Vd m) {y : Int} (h : imgB m y = true) : 0 ≤ y ∧ y < ml := by
  unfold imgB at h
  exact hm.range (of_decide_eq_true h)
theorem fnd_range (hm : Vd m) {s : Int × Int} (h : fndB m s x = true) : 0 ≤ x ∧ x < ml := by
  unfold fndB at h
  cases hx : atM m x with
  | none => rw [hx] at h; cases h
  | some y =>
    have : ¬ (x < 0 ∨ lenM m ≤ x) := fun hn => by rw [(atM_none hm.pos).mpr hn] at hx; cases hx
    have := hm.len
    omega
end
#print axioms comp_atI
#print axioms chain_right
#print axioms single_iff
end Go.Proofs.Ytnblpooimgpgoaa.Iso
