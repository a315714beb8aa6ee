/- Piecewise isometries: what Check asks, parts, reversed and composed maps, sets of images. Pure. -/
import Derived.Test.YtnblpooimgpgoaaIsoA
import Derived.Test.YtnblpooimgpgoaaSpanA
namespace Go.Proofs.Ytnblpooimgpgoaa.Iso
open Go.Proofs.Ytnblpooimgpgoaa.Span (inS inS_iff cnt cnt_or_and cnt_congr cnt_none cnt_span)
set_option linter.unusedVariables false

/-! ### What Check asks -/
abbrev ml : Int := 17179869184
def gd (r : Rn) : Bool := decide (1 ≤ r.2.1) && (decide (r.2.1 ≤ ml) && (decide (0 ≤ r.1) && (decide (r.1 < ml) && (if r.2.2 then decide (0 ≤ r.1 - r.2.1 + 1) else decide (r.1 + r.2.1 ≤ ml)))))
theorem gd_iff {r : Rn} : gd r = true ↔ 1 ≤ r.2.1 ∧ r.2.1 ≤ ml ∧ 0 ≤ r.1 ∧ r.1 < ml ∧ (r.2.2 = true → 0 ≤ r.1 - r.2.1 + 1) ∧ (r.2.2 = false → r.1 + r.2.1 ≤ ml) := by
  unfold gd
  cases h : r.2.2 <;> simp
def lenM : List Rn → Int
  | [] => 0
  | r :: m => r.2.1 + lenM m
theorem lenM_append (m p : List Rn) : lenM (m ++ p) = lenM m + lenM p := by
  induction m with
  | nil => simp [lenM]
  | cons r m ih => simp only [List.cons_append, lenM, ih]; omega
theorem lenM_snoc (m : List Rn) (r : Rn) : lenM (m ++ [r]) = lenM m + r.2.1 := by rw [lenM_append]; simp [lenM]
def errC (m : List Rn) : Nat := if 256 < m.length then 8 else if m.all gd = false then 1 else if ml < lenM m then 21 else 0
/-- What no error says. -/
structure Vd (m : List Rn) : Prop where
  n : m.length ≤ 256
  all : ∀ r ∈ m, gd r = true
  len : lenM m ≤ ml
theorem Vd.of {m : List Rn} (h : errC m = 0) : Vd m := by
  unfold errC at h
  by_cases h1 : 256 < m.length
  · rw [if_pos h1] at h; cases h
  · rw [if_neg h1] at h
    cases h2 : m.all gd with
    | false => rw [h2, if_pos rfl] at h; cases h
    | true =>
      rw [h2, if_neg (by simp)] at h
      by_cases h3 : ml < lenM m
      · rw [if_pos h3] at h; cases h
      · exact ⟨by omega, fun r hr => List.all_eq_true.mp h2 r hr, by omega⟩
theorem Vd.err {m : List Rn} (h : Vd m) : errC m = 0 := by
  unfold errC
  rw [if_neg (by have := h.n; omega), if_neg (by rw [List.all_eq_true.mpr h.all]; simp), if_neg (by have := h.len; omega)]
theorem errC_bad {m : List Rn} {i : Nat} {r : Rn} (h : m.length ≤ 256) (hr : m[i]? = some r) (hb : gd r = false) : errC m = 1 := by
  unfold errC
  have : m.all gd = false := by rw [List.all_eq_false]; exact ⟨r, List.mem_of_getElem? hr, by simp [hb]⟩
  rw [if_neg (by omega), if_pos this]
theorem errC_good {m : List Rn} (h : m.length ≤ 256) (ha : ∀ r ∈ m, gd r = true) : errC m = if ml < lenM m then 21 else 0 := by
  unfold errC
  rw [if_neg (by omega), if_neg (by rw [List.all_eq_true.mpr ha]; simp)]
section
variable {r c : Rn} {m p : List Rn} {k : Nat}
theorem gd_pos (h : gd r = true) : 1 ≤ r.2.1 := (gd_iff.mp h).1
theorem gd_im (h : gd r = true) (hk : k < r.2.1.toNat) : 0 ≤ im r k ∧ im r k < ml := by
  obtain ⟨h1, h2, h3, h4, h5, h6⟩ := gd_iff.mp h
  unfold im
  cases hb : r.2.2 with
  | true => rw [if_pos rfl]; have := h5 hb; omega
  | false => rw [if_neg (by simp)]; have := h6 hb; omega
theorem mem_exR {x : Int} : x ∈ exR r ↔ ∃ k, k < r.2.1.toNat ∧ x = im r k := by
  unfold exR
  rw [List.mem_map]
  constructor
  · rintro ⟨k, hk, rfl⟩; exact ⟨k, List.mem_range.mp hk, rfl⟩
  · rintro ⟨k, hk, rfl⟩; exact ⟨k, List.mem_range.mpr hk, rfl⟩
theorem mem_ex {x : Int} : x ∈ ex m ↔ ∃ r ∈ m, x ∈ exR r := by simp [ex]
theorem Vd.pos (h : Vd m) : ∀ r ∈ m, 1 ≤ r.2.1 := fun r hr => gd_pos (h.all r hr)
theorem Vd.range (h : Vd m) {x : Int} (hx : x ∈ ex m) : 0 ≤ x ∧ x < ml := by
  obtain ⟨r, hr, hx⟩ := mem_ex.mp hx
  obtain ⟨k, hk, rfl⟩ := mem_exR.mp hx
  exact gd_im (h.all r hr) hk
theorem ex_len (h : ∀ r ∈ m, 1 ≤ r.2.1) : ((ex m).length : Int) = lenM m := by
  induction m with
  | nil => rfl
  | cons r m ih =>
    have h1 := h r (by simp)
    rw [ex_cons, List.length_append, exR_len, lenM, ← ih fun s hs => h s (by simp [hs])]
    omega
theorem lenM_nonneg (h : ∀ r ∈ m, 1 ≤ r.2.1) : 0 ≤ lenM m := by rw [← ex_len h]; omega

/-! ### The image of an integer -/
def atM (m : List Rn) (x : Int) : Option Int := if x < 0 then none else (ex m)[x.toNat]?
theorem atM_nat (m : List Rn) (k : Nat) : atM m (k : Int) = (ex m)[k]? := by unfold atM; rw [if_neg (by omega), Int.toNat_natCast]
theorem ex_at (p : List Rn) (r : Rn) (q : List Rn) (hk : k < r.2.1.toNat) : (ex (p ++ r :: q))[(ex p).length + k]? = some (im r k) := by
  rw [ex_append, List.getElem?_append_right (by omega), show (ex p).length + k - (ex p).length = k by omega, ex_in hk]
theorem atM_none (h : ∀ r ∈ m, 1 ≤ r.2.1) {x : Int} : atM m x = none ↔ x < 0 ∨ lenM m ≤ x := by
  unfold atM
  have hl := ex_len h
  by_cases hx : x < 0
  · simp [hx]
  · rw [if_neg hx, List.getElem?_eq_none_iff]; omega

/-! ### Reversed, cut -/
def revR (r : Rn) : Rn := (las r, r.2.1, !r.2.2)
theorem revR_ex (h : 1 ≤ r.2.1) : exR (revR r) = (exR r).reverse := by
  obtain ⟨N, hN⟩ : ∃ N : Nat, r.2.1 = (N : Int) := ⟨r.2.1.toNat, by omega⟩
  apply List.ext_getElem?
  intro k
  rcases Nat.lt_or_ge k N with hk | hk
  · rw [List.getElem?_reverse (by rw [exR_len]; omega), exR_len, exR_at (by show k < r.2.1.toNat; omega), exR_at (by omega)]
    congr 1
    unfold im revR las im
    simp only
    cases r.2.2 <;> simp <;> omega
  · rw [List.getElem?_eq_none (by rw [exR_len]; show r.2.1.toNat ≤ k; omega), List.getElem?_eq_none (by rw [List.length_reverse, exR_len]; omega)]
theorem ex_rev (h : ∀ r ∈ m, 1 ≤ r.2.1) : ex (m.reverse.map revR) = (ex m).reverse := by
  induction m with
  | nil => rfl
  | cons r m ih =>
    rw [List.reverse_cons, List.map_append, ex_append, ih fun s hs => h s (by simp [hs]), ex_cons, List.reverse_append]
    simp [ex_one, revR_ex (h r (by simp))]
def cutR (r : Rn) (k : Nat) (n : Int) : Rn := (im r k, n, r.2.2)
theorem cutR_ex {n : Int} (hn : 0 ≤ n) (h : (k : Int) + n ≤ r.2.1) : exR (cutR r k n) = ((exR r).drop k).take n.toNat := by
  apply List.ext_getElem?
  intro j
  rw [List.getElem?_take, List.getElem?_drop]
  rcases Nat.lt_or_ge j n.toNat with hj | hj
  · rw [if_pos hj, exR_at (by show j < n.toNat; exact hj), exR_at (by omega)]
    congr 1
    unfold cutR im
    simp only
    split <;> simp [*] <;> omega
  · rw [if_neg (by omega), exR_no (by show n.toNat ≤ j; exact hj)]
/-- What lies from f to t. -/
def win (L : List Int) (f t : Nat) : List Int := (L.take t).drop f
theorem win_append (P R : List Int) (f t : Nat) : win (P ++ R) f t = win P f t ++ win R (f - P.length) (t - P.length) := by
  unfold win
  rw [List.take_append, List.drop_append, List.length_take]
  rcases Nat.le_total t P.length with h | h
  · rw [show t - P.length = 0 by omega]; simp
  · rw [Nat.min_eq_right h]
theorem win_all (L : List Int) : win L 0 L.length = L := by simp [win]
theorem win_join (L : List Int) (x : Nat) (h : x ≤ L.length) : win L 0 x ++ win L x L.length = L := by
  unfold win; rw [List.take_length, List.drop_zero, List.take_append_drop]
theorem win_at {L : List Int} {f t k : Nat} (h : f + k < t) : (win L f t)[k]? = L[f + k]? := by
  unfold win; rw [List.getElem?_drop, List.getElem?_take, if_pos h]
theorem win_len {L : List Int} {f t : Nat} (h : t ≤ L.length) : (win L f t).length = t - f := by
  unfold win; rw [List.length_drop, List.length_take, Nat.min_eq_left h]
theorem win_cut (hr : 1 ≤ r.2.1) {f t : Nat} (h1 : f ≤ t) (h2 : (t : Int) ≤ r.2.1) : win (exR r) f t = exR (cutR r f ((t : Int) - f)) := by
  rw [cutR_ex (by omega) (by omega)]
  unfold win
  rw [List.drop_take, show ((t : Int) - f).toNat = t - f by omega]
theorem win_none {L : List Int} {f t : Nat} (h : t ≤ f) : win L f t = [] := by
  unfold win; rw [List.drop_eq_nil_iff, List.length_take]; omega

/-! ### The normal form of a list of images -/
def nfL (L : List Int) : List Rn := norm (L.map fun x => (x, 1, false))
theorem ones_ex (L : List Int) : ex (L.map fun x => ((x, 1, false) : Rn)) = L := by
  induction L with
  | nil => rfl
  | cons x L ih => rw [List.map_cons, ex_cons, ih]; simp [exR, im]
theorem nfL_ok (L : List Int) : NF (nfL L) ∧ ex (nfL L) = L := by
  have h := norm_ok (m := L.map fun x => ((x, 1, false) : Rn)) fun r hr => by
    obtain ⟨x, _, rfl⟩ := List.mem_map.mp hr
    exact Int.le_refl _
  exact ⟨h.1, h.2.1.trans (ones_ex L)⟩
theorem nfL_one {L : List Int} (h : NF m) (he : ex m = L) : m = nfL L := nf_one h (nfL_ok L).1 (he.trans (nfL_ok L).2.symm)
theorem nfL_norm (h : ∀ r ∈ m, 1 ≤ r.2.1) : norm m = nfL (ex m) := nfL_one (norm_ok h).1 (norm_ok h).2.1
theorem nfL_len (h : ∀ r ∈ m, 1 ≤ r.2.1) : (nfL (ex m)).length ≤ m.length := by rw [← nfL_norm h]; exact (norm_ok h).2.2
theorem nfL_add {L : List Int} (h : NF m) (he : ex m = L) (hr : 1 ≤ r.2.1) : addR m r = nfL (L ++ exR r) := nfL_one (addR_ok h hr).1 (by rw [(addR_ok h hr).2.1, he])
theorem nfL_pos (L : List Int) : ∀ r ∈ nfL L, 1 ≤ r.2.1 := fun r hr => by
  obtain ⟨i, hi⟩ := List.mem_iff_getElem?.mp hr
  exact ((nfL_ok L).1.ok i r hi).1
/-- A normal form of images that are in range is valid, if it is short enough. -/
theorem nfL_vd {L : List Int} (hL : ∀ x ∈ L, 0 ≤ x ∧ x < ml) (hl : (L.length : Int) ≤ ml) (hn : (nfL L).length ≤ 256) : Vd (nfL L) := by
  refine ⟨hn, fun r hr => ?_, ?_⟩
  · have hp := nfL_pos L r hr
    have hmem : ∀ k, k < r.2.1.toNat → 0 ≤ im r k ∧ im r k < ml := fun k hk => by
      refine hL _ ?_
      rw [← (nfL_ok L).2]
      exact mem_ex.mpr ⟨r, hr, mem_exR.mpr ⟨k, hk, rfl⟩⟩
    have h0 := hmem 0 (by omega)
    have h1 := hmem (r.2.1.toNat - 1) (by omega)
    rw [im_zero] at h0
    rw [gd_iff]
    unfold im at h1
    cases hb : r.2.2 with
    | true => rw [hb, if_pos rfl] at h1; exact ⟨hp, by omega, h0.1, h0.2, fun _ => by omega, fun h => by cases h⟩
    | false => rw [hb, if_neg (by simp)] at h1; exact ⟨hp, by omega, h0.1, h0.2, fun h => (by cases h), fun _ => by omega⟩
  · rw [← ex_len (nfL_pos L), (nfL_ok L).2]; exact hl

/-! ### Composed -/
def comp (L : List Int) (m : List Rn) : Option (List Int) := L.mapM (atM m)
theorem comp_nil (m : List Rn) : comp [] m = some [] := rfl
theorem comp_append (L M : List Int) (m : List Rn) : comp (L ++ M) m = (comp L m).bind fun a => (comp M m).bind fun b => some (a ++ b) := by
  unfold comp
  simp [List.mapM_append]
theorem comp_some {L : List Int} {m : List Rn} : ∀ {R : List Int}, comp L m = some R ↔ R.length = L.length ∧ ∀ (k : Nat) (x : Int), L[k]? = some x → ∃ y, atM m x = some y ∧ R[k]? = some y := by
  induction L with
  | nil =>
    intro R
    rw [comp_nil]
    constructor
    · intro h; cases h; exact ⟨rfl, fun k x hx => by simp at hx⟩
    · rintro ⟨h, _⟩; rw [List.eq_nil_of_length_eq_zero h]
  | cons z L ih =>
    intro R
    have e : comp (z :: L) m = (atM m z).bind fun y => (comp L m).bind fun b => some (y :: b) := by unfold comp; simp [List.mapM_cons]
    rw [e]
    constructor
    · intro h
      cases h1 : atM m z with
      | none => rw [h1] at h; cases h
      | some y =>
        rw [h1] at h
        cases h2 : comp L m with
        | none => rw [h2] at h; cases h
        | some b =>
          rw [h2] at h
          cases h
          obtain ⟨k1, k2⟩ := ih.mp h2
          refine ⟨by simp [k1], fun k x hx => ?_⟩
          cases k with
          | zero => simp at hx; subst hx; exact ⟨y, h1, rfl⟩
          | succ k => exact k2 k x (by simpa using hx)
    · rintro ⟨h1, h2⟩
      obtain ⟨y, h3, h4⟩ := h2 0 z rfl
      cases R with
      | nil => simp at h1
      | cons y' b =>
        simp at h4; subst h4
        have h5 := (ih (R := b)).mpr ⟨by simpa using h1, fun k x hx => by
          obtain ⟨u, u1, u2⟩ := h2 (k + 1) x (by simpa using hx)
          exact ⟨u, u1, by simpa using u2⟩⟩
        rw [h3, h5]; rfl
theorem comp_none {L : List Int} {m : List Rn} (h : comp L m = none) : ∃ x ∈ L, atM m x = none := by
  induction L with
  | nil => cases h
  | cons z L ih =>
    have e : comp (z :: L) m = (atM m z).bind fun y => (comp L m).bind fun b => some (y :: b) := by unfold comp; simp [List.mapM_cons]
    rw [e] at h
    cases h1 : atM m z with
    | none => exact ⟨z, by simp, h1⟩
    | some y =>
      rw [h1] at h
      cases h2 : comp L m with
      | none => obtain ⟨x, hx, hn⟩ := ih h2; exact ⟨x, by simp [hx], hn⟩
      | some b => rw [h2] at h; cases h
theorem comp_bad {L : List Int} {m : List Rn} {x : Int} (hx : x ∈ L) (h : atM m x = none) : comp L m = none := by
  cases h1 : comp L m with
  | none => rfl
  | some R =>
    obtain ⟨k, hk⟩ := List.mem_iff_getElem?.mp hx
    obtain ⟨y, hy, _⟩ := (comp_some.mp h1).2 k x hk
    rw [h] at hy; cases hy

/-! ### Sets of images -/
def spR (r : Rn) : Int × Int := (min r.1 (las r), max r.1 (las r) + 1)
theorem spR_iff (h : 1 ≤ r.2.1) {x : Int} : inS (spR r) x = true ↔ x ∈ exR r := by
  rw [inS_iff, mem_exR]
  obtain ⟨N, hN⟩ : ∃ N : Nat, r.2.1 = (N : Int) := ⟨r.2.1.toNat, by omega⟩
  have hl : las r = if r.2.2 then r.1 - (N - 1 : Nat) else r.1 + (N - 1 : Nat) := by unfold las im; rw [hN, Int.toNat_natCast]
  unfold spR
  simp only
  rw [hl]
  unfold im
  cases r.2.2 with
  | true =>
    rw [if_pos rfl]
    constructor
    · rintro ⟨h1, h2⟩; exact ⟨(r.1 - x).toNat, by omega, by rw [if_pos rfl]; omega⟩
    · rintro ⟨k, hk, e⟩; rw [if_pos rfl] at e; omega
  | false =>
    rw [if_neg (by simp)]
    constructor
    · rintro ⟨h1, h2⟩; exact ⟨(x - r.1).toNat, by omega, by rw [if_neg (by simp)]; omega⟩
    · rintro ⟨k, hk, e⟩; rw [if_neg (by simp)] at e; omega
def imgB (m : List Rn) (x : Int) : Bool := decide (x ∈ ex m)
def fndB (m : List Rn) (s : Int × Int) (x : Int) : Bool := match atM m x with
  | some y => inS s y
  | none => false
/-- A count of the different values of a list. -/
theorem cnt_eq (x : Int) (n : Nat) (h0 : 0 ≤ x) (h1 : x < n) : cnt (fun y => decide (y = x)) n = 1 := by
  have e : cnt (fun y => decide (y = x)) n = cnt (inS (x, x + 1)) n := cnt_congr (fun y => by
    rw [Bool.eq_iff_iff, decide_eq_true_iff, inS_iff]; simp only; omega) n
  rw [e, cnt_span (x, x + 1) h0 (by simp only; omega)]
  simp only
  rw [if_neg (by omega)]; omega
theorem cnt_mem (n : Nat) : ∀ {L : List Int}, (∀ x ∈ L, 0 ≤ x ∧ x < n) → cnt (fun y => decide (y ∈ L)) n ≤ L.length ∧ (cnt (fun y => decide (y ∈ L)) n = L.length ↔ L.Nodup)
  | [], _ => by
    have e : cnt (fun y => decide (y ∈ ([] : List Int))) n = 0 := cnt_none (fun y => by simp) n
    rw [e]; simp
  | z :: L, h => by
    obtain ⟨i1, i2⟩ := cnt_mem n fun x hx => h x (List.mem_cons_of_mem _ hx)
    have hz := h z (by simp)
    have h1 := cnt_or_and (fun y => decide (y = z)) (fun y => decide (y ∈ L)) n
    rw [cnt_eq z n hz.1 hz.2] at h1
    have h2 : cnt (fun y => decide (y ∈ z :: L)) n = cnt (fun y => decide (y = z) || decide (y ∈ L)) n := cnt_congr (fun y => by
      rw [Bool.eq_iff_iff]; simp) n
    by_cases hm : z ∈ L
    · have h3 : cnt (fun y => decide (y = z) && decide (y ∈ L)) n = 1 := by
        rw [← cnt_eq z n hz.1 hz.2]
        refine cnt_congr (fun y => ?_) n
        rw [Bool.eq_iff_iff]; simp
        intro e; subst e; exact hm
      rw [List.nodup_cons]
      rw [h2, List.length_cons]
      refine ⟨by omega, ⟨fun e => by omega, fun e => absurd hm e.1⟩⟩
    · have h3 : cnt (fun y => decide (y = z) && decide (y ∈ L)) n = 0 := cnt_none (fun y => by
        rw [Bool.and_eq_false_iff]
        by_cases e : y = z
        · right; subst e; simp [hm]
        · left; simp [e]) n
      rw [List.nodup_cons, h2, List.length_cons]
      refine ⟨by omega, ⟨fun e => ⟨hm, i2.mp (by omega)⟩, fun e => by have := i2.mpr e.2; omega⟩⟩
end
#print axioms nfL_vd
#print axioms comp_some
#print axioms cnt_mem
end Go.Proofs.Ytnblpooimgpgoaa.Iso
