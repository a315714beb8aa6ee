/- Several texts in one: ShareA, ShareB, ChestA, ChestB, ZumA, ZumB, ZumF. -/
import Derived.Test.YtagjimdplmimoaaGreatRows
import Derived.Test.YtagjimdplmimoaaGreatPk1
import Derived.WalkKit
import Derived.Lib.Hide
import Derived.WalkLawsBesides
import Derived.WalkSpells
import Derived.Outline
import Derived.Laws.Externs
import Derived.WalkSmall
import Derived.BigQuiet
import Derived.Deep.RegionWith
import Derived.Deep.QuietTactic
/- Exact division of amounts among weights: the largest remainders. Pure. -/
namespace Go.Proofs.YtagjimdplmimoaaGreat.Share
set_option linter.unusedVariables false

/-! ### Counts and sums -/
/-- How many of 0 .. n-1 are so. -/
def cn (p : Nat → Bool) : Nat → Nat
  | 0 => 0
  | n + 1 => cn p n + if p n then 1 else 0
/-- The sum of 0 .. n-1. -/
def sm (f : Nat → Nat) : Nat → Nat
  | 0 => 0
  | n + 1 => sm f n + f n
theorem cn_congr {p q : Nat → Bool} : ∀ {n : Nat}, (∀ i, i < n → p i = q i) → cn p n = cn q n
  | 0, _ => rfl
  | n + 1, h => by rw [cn, cn, cn_congr fun i hi => h i (by omega), h n (by omega)]
theorem sm_congr {f g : Nat → Nat} : ∀ {n : Nat}, (∀ i, i < n → f i = g i) → sm f n = sm g n
  | 0, _ => rfl
  | n + 1, h => by rw [sm, sm, sm_congr fun i hi => h i (by omega), h n (by omega)]
theorem cn_le (p : Nat → Bool) : ∀ n, cn p n ≤ n
  | 0 => Nat.le_refl _
  | n + 1 => by have := cn_le p n; rw [cn]; split <;> omega
theorem cn_mono {p q : Nat → Bool} : ∀ {n : Nat}, (∀ i, i < n → p i = true → q i = true) → cn p n ≤ cn q n
  | 0, _ => Nat.le_refl _
  | n + 1, h => by
    have h1 := cn_mono (n := n) fun i hi => h i (by omega)
    have h2 := h n (by omega)
    rw [cn, cn]
    cases hp : p n with
    | false => simp; omega
    | true => rw [h2 hp]; omega
theorem cn_lt {p q : Nat → Bool} : ∀ {n : Nat}, (∀ i, i < n → p i = true → q i = true) → ∀ {i : Nat}, i < n → p i = false → q i = true → cn p n < cn q n
  | 0, _, i, hi, _, _ => by omega
  | n + 1, h, i, hi, h1, h2 => by
    rw [cn, cn]
    rcases Nat.lt_or_ge i n with hlt | hge
    · have h3 := cn_lt (n := n) (fun j hj => h j (by omega)) hlt h1 h2
      have h4 := h n (by omega)
      cases hp : p n with
      | false => simp; omega
      | true => rw [h4 hp]; omega
    · obtain rfl : i = n := by omega
      have h3 := cn_mono (n := i) fun j hj => h j (by omega)
      rw [h1, h2]
      simp; omega
theorem cn_none {p : Nat → Bool} : ∀ {n : Nat}, (∀ i, i < n → p i = false) → cn p n = 0
  | 0, _ => rfl
  | n + 1, h => by rw [cn, cn_none fun i hi => h i (by omega), h n (by omega)]; rfl
theorem cn_one {p : Nat → Bool} : ∀ {n i : Nat}, i < n → p i = true → (∀ j, j < n → p j = true → j = i) → cn p n = 1
  | 0, i, hi, _, _ => by omega
  | n + 1, i, hi, h1, h2 => by
    rw [cn]
    rcases Nat.lt_or_ge i n with hlt | hge
    · rw [cn_one hlt h1 fun j hj => h2 j (by omega)]
      cases hp : p n with
      | false => rfl
      | true => have := h2 n (by omega) hp; omega
    · obtain rfl : i = n := by omega
      have : cn p i = 0 := cn_none fun j hj => by
        cases hp : p j with
        | false => rfl
        | true => have := h2 j (by omega) hp; omega
      rw [this, h1]; rfl
theorem cn_or {p q : Nat → Bool} : ∀ {n : Nat}, (∀ i, i < n → ¬ (p i = true ∧ q i = true)) → cn (fun i => p i || q i) n = cn p n + cn q n
  | 0, _ => rfl
  | n + 1, h => by
    rw [cn, cn, cn, cn_or fun i hi => h i (by omega)]
    have := h n (by omega)
    cases hp : p n <;> cases hq : q n <;> simp [hp, hq] at this ⊢ <;> omega
theorem cn_not (p : Nat → Bool) : ∀ n, cn p n + cn (fun i => !p i) n = n
  | 0 => rfl
  | n + 1 => by
    have := cn_not p n
    rw [cn, cn]
    cases hp : p n <;> simp <;> omega
theorem cn_some {p : Nat → Bool} : ∀ {n : Nat}, 0 < cn p n → ∃ i, i < n ∧ p i = true
  | 0, h => by simp [cn] at h
  | n + 1, h => by
    cases hp : p n with
    | true => exact ⟨n, by omega, hp⟩
    | false =>
      rw [cn, hp] at h
      obtain ⟨i, hi, h1⟩ := cn_some (n := n) (by simpa using h)
      exact ⟨i, by omega, h1⟩
theorem sm_add (f g : Nat → Nat) : ∀ n, sm (fun i => f i + g i) n = sm f n + sm g n
  | 0 => rfl
  | n + 1 => by rw [sm, sm, sm, sm_add f g n]; omega
theorem sm_mul (c : Nat) (f : Nat → Nat) : ∀ n, sm (fun i => c * f i) n = c * sm f n
  | 0 => rfl
  | n + 1 => by rw [sm, sm, sm_mul c f n, Nat.mul_add]
theorem sm_const (c : Nat) : ∀ n, sm (fun _ => c) n = c * n
  | 0 => rfl
  | n + 1 => by rw [sm, sm_const c n, Nat.mul_succ]
theorem sm_le {f g : Nat → Nat} : ∀ {n : Nat}, (∀ i, i < n → f i ≤ g i) → sm f n ≤ sm g n
  | 0, _ => Nat.le_refl _
  | n + 1, h => Nat.add_le_add (sm_le fun i hi => h i (by omega)) (h n (by omega))
theorem sm_ite (p : Nat → Bool) : ∀ n, sm (fun i => if p i then 1 else 0) n = cn p n
  | 0 => rfl
  | n + 1 => by rw [sm, cn, sm_ite p n]
theorem sm_mono {f : Nat → Nat} {i n : Nat} (h : i ≤ n) : sm f i ≤ sm f n := by
  induction n with
  | zero => obtain rfl : i = 0 := by omega
            exact Nat.le_refl _
  | succ n ih =>
    rcases Nat.lt_or_ge n i with h1 | h1
    · obtain rfl : i = n + 1 := by omega
      exact Nat.le_refl _
    · exact Nat.le_trans (ih h1) (Nat.le_add_right _ _)
theorem sm_at {f : Nat → Nat} {i n : Nat} (h : i < n) : f i ≤ sm f n :=
  Nat.le_trans (Nat.le_add_left (f i) (sm f i)) (sm_mono (f := f) (i := i + 1) h)

/-! ### Ranks -/
/-- j comes before i: a larger remainder, of equal ones the lower index. -/
def bt (r : Nat → Nat) (j i : Nat) : Bool := decide (r i < r j) || (decide (r i = r j) && decide (j < i))
theorem bt_iff {r : Nat → Nat} {j i : Nat} : bt r j i = true ↔ r i < r j ∨ (r i = r j ∧ j < i) := by simp [bt]
theorem bt_irr (r : Nat → Nat) (i : Nat) : bt r i i = false := by simp [bt]
theorem bt_trans {r : Nat → Nat} {i j k : Nat} (h1 : bt r i j = true) (h2 : bt r j k = true) : bt r i k = true := by
  rw [bt_iff] at *; omega
theorem bt_total {r : Nat → Nat} {i j : Nat} (h : i ≠ j) : bt r i j = true ∨ bt r j i = true := by
  rw [bt_iff, bt_iff]; omega
theorem bt_as {r : Nat → Nat} {i j : Nat} (h : bt r i j = true) : bt r j i = false := by
  cases h1 : bt r j i with
  | false => rfl
  | true => rw [bt_iff] at h h1; omega
/-- How many of n come before i. -/
def rank (r : Nat → Nat) (n i : Nat) : Nat := cn (fun j => bt r j i) n
theorem rank_lt {r : Nat → Nat} {n i j : Nat} (hi : i < n) (h : bt r i j = true) : rank r n i < rank r n j :=
  cn_lt (fun k _ hk => bt_trans hk h) hi (bt_irr r i) h
theorem rank_ne {r : Nat → Nat} {n i j : Nat} (hi : i < n) (hj : j < n) (h : i ≠ j) : rank r n i ≠ rank r n j := by
  rcases bt_total (r := r) h with h1 | h1
  · have := rank_lt hi h1; omega
  · have := rank_lt hj h1; omega
theorem rank_iff {r : Nat → Nat} {n i j : Nat} (hi : i < n) (hj : j < n) : rank r n i < rank r n j ↔ bt r i j = true := by
  refine ⟨fun h => ?_, rank_lt hi⟩
  rcases Nat.decEq i j with he | he
  · rcases bt_total (r := r) he with h1 | h1
    · exact h1
    · have := rank_lt hj h1; omega
  · subst he; omega
/-- The first one of those that are so. -/
theorem best {r : Nat → Nat} {p : Nat → Bool} : ∀ {n : Nat}, (∃ i, i < n ∧ p i = true) → ∃ b, b < n ∧ p b = true ∧ ∀ i, i < n → p i = true → i = b ∨ bt r b i = true
  | 0, ⟨i, hi, _⟩ => by omega
  | n + 1, ⟨i, hi, h⟩ => by
    by_cases hex : ∃ i, i < n ∧ p i = true
    · obtain ⟨b, hb, h1, h2⟩ := best (r := r) hex
      cases hp : p n with
      | false =>
        refine ⟨b, by omega, h1, fun j hj hpj => ?_⟩
        rcases Nat.lt_or_ge j n with hlt | hge
        · exact h2 j hlt hpj
        · obtain rfl : j = n := by omega
          rw [hp] at hpj; cases hpj
      | true =>
        rcases bt_total (r := r) (i := b) (j := n) (by omega) with hbn | hbn
        · refine ⟨b, by omega, h1, fun j hj hpj => ?_⟩
          rcases Nat.lt_or_ge j n with hlt | hge
          · exact h2 j hlt hpj
          · obtain rfl : j = n := by omega
            exact Or.inr hbn
        · refine ⟨n, by omega, hp, fun j hj hpj => ?_⟩
          rcases Nat.lt_or_ge j n with hlt | hge
          · rcases h2 j hlt hpj with rfl | h3
            · exact Or.inr hbn
            · exact Or.inr (bt_trans hbn h3)
          · exact Or.inl (by omega)
    · obtain rfl : i = n := by
        rcases Nat.lt_or_ge i n with hlt | hge
        · exact absurd ⟨i, hlt, h⟩ hex
        · omega
      refine ⟨i, hi, h, fun j hj hpj => ?_⟩
      rcases Nat.lt_or_ge j i with hlt | hge
      · exact absurd ⟨j, hlt, hpj⟩ hex
      · exact Or.inl (by omega)
/-- Exactly k ranks lie below k, and one has the rank k. -/
theorem rank_cnt {r : Nat → Nat} {n : Nat} : ∀ k, k ≤ n → cn (fun i => decide (rank r n i < k)) n = k ∧ (k < n → ∃ b, b < n ∧ rank r n b = k) := by
  intro k
  induction k with
  | zero =>
    intro _
    have h0 : cn (fun i => decide (rank r n i < 0)) n = 0 := cn_none fun i _ => by simp
    refine ⟨h0, fun h => ?_⟩
    obtain ⟨b, hb, _, h2⟩ := best (r := r) (p := fun _ => true) (n := n) ⟨0, h, rfl⟩
    refine ⟨b, hb, cn_none fun j hj => ?_⟩
    rcases h2 j hj rfl with rfl | h3
    · exact bt_irr _ _
    · exact bt_as h3
  | succ k ih =>
    intro hk
    obtain ⟨h1, h2⟩ := ih (by omega)
    obtain ⟨b, hb, hr⟩ := h2 (by omega)
    have hc : cn (fun i => decide (rank r n i < k + 1)) n = k + 1 := by
      have h3 : cn (fun i => decide (rank r n i < k) || decide (rank r n i = k)) n = k + 1 := by
        rw [cn_or fun i _ h => by simp at h; omega, h1, cn_one (i := b) hb (by simp [hr]) fun j hj h => by
          rcases Nat.decEq j b with he | he
          · have := rank_ne (r := r) hj hb he; simp at h; omega
          · exact he]
      rw [← h3]
      exact cn_congr fun i _ => by
        rw [Bool.eq_iff_iff]; simp; omega
    refine ⟨hc, fun hlt => ?_⟩
    have hnot := cn_not (fun i => decide (rank r n i < k + 1)) n
    obtain ⟨b2, hb2, hp2, hbest⟩ := best (r := r) (p := fun i => !decide (rank r n i < k + 1)) (n := n) (cn_some (by omega))
    refine ⟨b2, hb2, ?_⟩
    have hge : k + 1 ≤ rank r n b2 := by simpa using hp2
    have hle : rank r n b2 ≤ k + 1 := by
      rw [← hc]
      refine cn_mono fun j hj hbj => ?_
      cases hd : decide (rank r n j < k + 1) with
      | true => rfl
      | false =>
        rcases hbest j hj (by simp only [hd]; rfl) with rfl | h3
        · rw [bt_irr] at hbj; cases hbj
        · rw [bt_as h3] at hbj; cases hbj
    omega
/-- The one of rank k is the first one of those of rank k and above. -/
theorem rank_best {r : Nat → Nat} {n k b i : Nat} (hb : b < n) (hr : rank r n b = k) (hi : i < n) (hk : k ≤ rank r n i) : i = b ∨ bt r b i = true := by
  rcases Nat.decEq i b with he | he
  · exact Or.inr ((rank_iff hb hi).mp (by have := rank_ne (r := r) hi hb he; omega))
  · exact Or.inl he
/-- In a list that is sorted so, each lies at its rank. -/
theorem rank_sorted {r : Nat → Nat} {n : Nat} {s : Nat → Nat} (hs : ∀ k, k < n → s k < n) (hord : ∀ j k, j < k → k < n → bt r (s j) (s k) = true) : ∀ k, k < n → rank r n (s k) = k := by
  have hge : ∀ k, k < n → k ≤ rank r n (s k) := by
    intro k
    induction k with
    | zero => intro _; exact Nat.zero_le _
    | succ k ih =>
      intro hk
      have h1 := ih (by omega)
      have h2 := rank_lt (r := r) (hs k (by omega)) (hord k (k + 1) (by omega) hk)
      omega
  have hlt : ∀ i, i < n → rank r n i < n := fun i hi => by
    have h := cn_lt (p := fun j => bt r j i) (q := fun _ => true) (n := n) (fun _ _ _ => rfl) hi (bt_irr r i) rfl
    have h2 := cn_le (fun _ => true) n
    exact Nat.lt_of_lt_of_le h h2
  have hle : ∀ d k, k + d + 1 = n → rank r n (s k) ≤ k := by
    intro d
    induction d with
    | zero => intro k hk; have := hlt (s k) (hs k (by omega)); omega
    | succ d ih =>
      intro k hk
      have h1 := ih (k + 1) (by omega)
      have h2 := rank_lt (r := r) (hs k (by omega)) (hord k (k + 1) (by omega) (by omega))
      omega
  intro k hk
  have h1 := hge k hk
  have h2 := hle (n - 1 - k) k (by omega)
  omega

/-! ### The parts -/
section
variable (T : Nat) (w : Nat → Nat) (n : Nat)
def tw : Nat := sm w n
def quo (i : Nat) : Nat := T * w i / tw w n
def rst (i : Nat) : Nat := T * w i % tw w n
def lft : Nat := T - sm (quo T w n) n
def part (i : Nat) : Nat := if tw w n = 0 then 0 else quo T w n i + if rank (rst T w n) n i < lft T w n then 1 else 0
def bnd (i : Nat) : Nat := if tw w n = 0 then 0 else T * sm w (i + 1) / tw w n
end
variable {T : Nat} {w : Nat → Nat} {n : Nat}
theorem quo_rst (i : Nat) : tw w n * quo T w n i + rst T w n i = T * w i := Nat.div_add_mod _ _
theorem sum_all : tw w n * sm (quo T w n) n + sm (rst T w n) n = T * tw w n := by
  rw [← sm_mul, ← sm_add, sm_congr (g := fun i => T * w i) fun i _ => quo_rst i, sm_mul]
  rfl
theorem sum_le (h : 0 < tw w n) : sm (quo T w n) n ≤ T := by
  have h1 := sum_all (T := T) (w := w) (n := n)
  have h2 : tw w n * sm (quo T w n) n ≤ tw w n * T := by rw [Nat.mul_comm (tw w n) T]; omega
  exact Nat.le_of_mul_le_mul_left h2 h
theorem lft_eq (h : 0 < tw w n) : tw w n * lft T w n = sm (rst T w n) n := by
  have h1 := sum_all (T := T) (w := w) (n := n)
  have h2 := sum_le (T := T) h
  unfold lft
  rw [Nat.mul_sub, Nat.mul_comm (tw w n) T]; omega
theorem rst_lt (h : 0 < tw w n) (i : Nat) : rst T w n i < tw w n := Nat.mod_lt _ h
/-- Fewer units are left than there are remainders above zero. -/
theorem lft_pos (h : 0 < tw w n) : lft T w n ≤ cn (fun i => decide (0 < rst T w n i)) n := by
  have h1 := lft_eq (T := T) h
  have h2 : sm (rst T w n) n ≤ tw w n * cn (fun i => decide (0 < rst T w n i)) n := by
    rw [← sm_ite, ← sm_mul]
    refine sm_le fun i _ => ?_
    have := rst_lt (T := T) h i
    by_cases h0 : 0 < rst T w n i
    · simp [h0]; omega
    · simp [h0]; omega
  exact Nat.le_of_mul_le_mul_left (by rw [h1]; exact h2) h
theorem lft_lt (h : 0 < tw w n) : lft T w n < n := by
  have h0 : 0 < n := by
    rcases Nat.eq_zero_or_pos n with rfl | h1
    · simp [tw, sm] at h
    · exact h1
  have h1 := lft_eq (T := T) h
  have h2 : sm (rst T w n) n ≤ (tw w n - 1) * n := by
    have : sm (rst T w n) n ≤ sm (fun _ => tw w n - 1) n := sm_le fun i _ => by have := rst_lt (T := T) h i; omega
    refine Nat.le_trans this ?_
    exact Nat.le_of_eq (sm_const _ n)
  rcases Nat.lt_or_ge (lft T w n) n with h3 | h3
  · exact h3
  · have h4 : tw w n * n ≤ tw w n * lft T w n := Nat.mul_le_mul_left _ h3
    have h5 : (tw w n - 1) * n + n = tw w n * n := by
      obtain ⟨c, hc⟩ : ∃ c, tw w n = c + 1 := ⟨tw w n - 1, by omega⟩
      rw [hc, Nat.add_sub_cancel, Nat.succ_mul]
    omega
/-- A part whose exact share is an integer gets no unit. -/
theorem whole_rank (h : 0 < tw w n) {i : Nat} (h0 : rst T w n i = 0) : lft T w n ≤ rank (rst T w n) n i := by
  refine Nat.le_trans (lft_pos h) (cn_mono fun j hj h1 => ?_)
  rw [bt_iff]
  have : 0 < rst T w n j := by simpa using h1
  omega
/-- The parts add up to the total. -/
theorem part_sum (h : 0 < tw w n) : sm (part T w n) n = T := by
  have h1 : sm (part T w n) n = sm (fun i => quo T w n i + if decide (rank (rst T w n) n i < lft T w n) then 1 else 0) n :=
    sm_congr fun i _ => by unfold part; rw [if_neg (by omega)]; simp
  rw [h1, sm_add, sm_ite, (rank_cnt (r := rst T w n) (lft T w n) (Nat.le_of_lt (lft_lt h))).1]
  have := sum_le (T := T) h
  unfold lft
  omega
/-- Each part is the exact share, rounded down or up. -/
theorem part_near (h : 0 < tw w n) (i : Nat) : quo T w n i ≤ part T w n i ∧ part T w n i ≤ quo T w n i + (if rst T w n i = 0 then 0 else 1) := by
  unfold part
  rw [if_neg (by omega)]
  by_cases h0 : rst T w n i = 0
  · have := whole_rank (T := T) h h0
    rw [if_pos h0, if_neg (by omega)]
    omega
  · rw [if_neg h0]
    split <;> omega
/-- Greater weights, greater parts. -/
theorem part_order (h : 0 < tw w n) {i j : Nat} (hi : i < n) (hj : j < n) (hw : w j < w i) : part T w n j ≤ part T w n i := by
  have h1 := quo_rst (T := T) (w := w) (n := n) i
  have h2 := quo_rst (T := T) (w := w) (n := n) j
  have r1 := rst_lt (T := T) (w := w) h i
  have r2 := rst_lt (T := T) (w := w) h j
  have hq : quo T w n j ≤ quo T w n i := Nat.div_le_div_right (Nat.mul_le_mul_left _ (by omega))
  have hz : ¬ tw w n = 0 := by omega
  simp only [part, if_neg hz]
  rcases Nat.lt_or_ge (quo T w n j) (quo T w n i) with hlt | hge
  · split <;> split <;> omega
  · have hqe : quo T w n j = quo T w n i := by omega
    rw [hqe] at h2 ⊢
    have hm : T * w j ≤ T * w i := Nat.mul_le_mul_left _ (by omega)
    rcases Nat.lt_or_ge (rst T w n j) (rst T w n i) with hr | hr
    · have := (rank_iff (r := rst T w n) hi hj).mpr (by rw [bt_iff]; exact Or.inl hr)
      split <;> split <;> omega
    · have hTe : T * w j = T * w i := by omega
      have hT : T = 0 := by
        rcases Nat.eq_zero_or_pos T with h0 | h0
        · exact h0
        · have := Nat.mul_lt_mul_of_pos_left hw h0; omega
      have hl : lft T w n = 0 := by unfold lft; omega
      rw [hl]
      simp
/-- Equal weights: the earlier part is not less, and at most 1 greater. -/
theorem part_equal (h : 0 < tw w n) {i j : Nat} (hi : i < n) (hj : j < n) (hij : i < j) (hw : w i = w j) : part T w n j ≤ part T w n i ∧ part T w n i ≤ part T w n j + 1 := by
  have hq : quo T w n i = quo T w n j := by unfold quo; rw [hw]
  have hr : rst T w n i = rst T w n j := by unfold rst; rw [hw]
  have := (rank_iff (r := rst T w n) hi hj).mpr (by rw [bt_iff]; exact Or.inr ⟨hr.symm, hij⟩)
  have hz : ¬ tw w n = 0 := by omega
  simp only [part, if_neg hz, hq]
  split <;> split <;> omega
/-- Scale. -/
theorem tw_scale (b : Nat) : tw (fun i => b * w i) n = b * tw w n := sm_mul b w n
theorem quo_scale {b : Nat} (hb : 0 < b) (i : Nat) : quo T (fun i => b * w i) n i = quo T w n i := by
  unfold quo
  rw [tw_scale, Nat.mul_left_comm, Nat.mul_div_mul_left _ _ hb]
theorem rst_scale {b : Nat} (i : Nat) : rst T (fun i => b * w i) n i = b * rst T w n i := by
  unfold rst
  rw [tw_scale, Nat.mul_left_comm, Nat.mul_mod_mul_left]
theorem part_scale {b : Nat} (hb : 0 < b) {i : Nat} : part T (fun i => b * w i) n i = part T w n i := by
  unfold part
  have h1 : lft T (fun i => b * w i) n = lft T w n := by
    unfold lft
    rw [sm_congr fun i _ => quo_scale hb i]
  have h2 : rank (rst T (fun i => b * w i) n) n i = rank (rst T w n) n i := cn_congr fun j _ => by
    unfold bt
    rw [rst_scale, rst_scale]
    have e1 : (b * rst T w n i < b * rst T w n j) ↔ (rst T w n i < rst T w n j) := Nat.mul_lt_mul_left hb
    have e2 : (b * rst T w n i = b * rst T w n j) ↔ (rst T w n i = rst T w n j) := Nat.mul_right_inj (by omega)
    simp only [e1, e2]
  rw [h1, h2, quo_scale hb, tw_scale]
  by_cases h0 : tw w n = 0
  · simp [h0]
  · rw [if_neg h0, if_neg (by have := Nat.mul_pos hb (Nat.pos_of_ne_zero h0); omega)]
theorem bnd_scale {b : Nat} (hb : 0 < b) {i : Nat} : bnd T (fun i => b * w i) n i = bnd T w n i := by
  unfold bnd
  rw [tw_scale, sm_mul, Nat.mul_left_comm, Nat.mul_div_mul_left _ _ hb]
  by_cases h0 : tw w n = 0
  · simp [h0]
  · rw [if_neg h0, if_neg (by have := Nat.mul_pos hb (Nat.pos_of_ne_zero h0); omega)]
end Go.Proofs.YtagjimdplmimoaaGreat.Share
/- Exact division of amounts among weights: errors, lists, the reference's loops. Pure. -/
namespace Go.Proofs.YtagjimdplmimoaaGreat.Share
set_option linter.unusedVariables false

/-! ### Lists of integers -/
abbrev mx : Int := 1125899906842624
def inW (z : Int) : Bool := decide (0 ≤ z) && decide (z ≤ mx)
theorem inW_iff {z : Int} : inW z = true ↔ 0 ≤ z ∧ z ≤ mx := by simp [inW]
theorem inW_no {z : Int} : inW z = false ↔ z < 0 ∨ mx < z := by
  cases h : inW z with
  | true => rw [inW_iff] at h; simp; omega
  | false =>
    have : ¬ (0 ≤ z ∧ z ≤ mx) := fun k => by rw [inW_iff.mpr k] at h; cases h
    simp; omega
def wf (ws : List Int) (i : Nat) : Nat := (ws.getD i 0).toNat
/-- The sum of the first k. -/
def sumK (ws : List Int) (k : Nat) : Int := (ws.take k).foldl (· + ·) 0
theorem sumK_zero (ws : List Int) : sumK ws 0 = 0 := rfl
theorem sumK_succ {ws : List Int} {k : Nat} {z : Int} (h : ws[k]? = some z) : sumK ws (k + 1) = sumK ws k + z := by
  unfold sumK
  rw [List.take_add_one, h]
  simp [List.foldl_append]
theorem wf_at {ws : List Int} {k : Nat} {z : Int} (h : ws[k]? = some z) (h0 : 0 ≤ z) : (wf ws k : Int) = z := by
  unfold wf
  rw [List.getD_eq_getElem?_getD, h]
  simp; omega
theorem sm_sumK {ws : List Int} (ha : ∀ z ∈ ws, 0 ≤ z) : ∀ {k : Nat}, k ≤ ws.length → (sm (wf ws) k : Int) = sumK ws k
  | 0, _ => rfl
  | k + 1, h => by
    have hk : ws[k]? = some ws[k] := List.getElem?_eq_getElem (by omega)
    rw [sm, sumK_succ hk, ← sm_sumK ha (by omega), ← wf_at hk (ha _ (List.getElem_mem _))]
    simp
/-- The errors of Split. -/
def errS (t : Int) (ws : List Int) : Nat :=
  if inW t = false then 1 else if ws.length = 0 then 10 else if 512 < ws.length then 8 else if ws.all inW = false then 1
  else if mx < sumK ws ws.length then 2 else if sumK ws ws.length = 0 ∧ t ≠ 0 then 16 else 0
def partsL (t : Int) (ws : List Int) : List Int := (List.range ws.length).map fun i => (part t.toNat (wf ws) ws.length i : Int)
def bndsL (t : Int) (ws : List Int) : List Int := (List.range ws.length).map fun i => (bnd t.toNat (wf ws) ws.length i : Int)
theorem partsL_len (t : Int) (ws : List Int) : (partsL t ws).length = ws.length := by simp [partsL]
theorem bndsL_len (t : Int) (ws : List Int) : (bndsL t ws).length = ws.length := by simp [bndsL]
theorem partsL_at (t : Int) {ws : List Int} {i : Nat} (h : i < ws.length) : (partsL t ws)[i]? = some (part t.toNat (wf ws) ws.length i : Int) := by
  unfold partsL
  rw [List.getElem?_map, List.getElem?_range h]; rfl
theorem bndsL_at (t : Int) {ws : List Int} {i : Nat} (h : i < ws.length) : (bndsL t ws)[i]? = some (bnd t.toNat (wf ws) ws.length i : Int) := by
  unfold bndsL
  rw [List.getElem?_map, List.getElem?_range h]; rfl
/-- What no error says. -/
structure Ok (t : Int) (ws : List Int) : Prop where
  t0 : 0 ≤ t
  t1 : t ≤ mx
  n0 : 0 < ws.length
  n1 : ws.length ≤ 512
  all : ∀ z ∈ ws, 0 ≤ z ∧ z ≤ mx
  sum : sumK ws ws.length ≤ mx
  nil : sumK ws ws.length = 0 → t = 0
theorem all_in {ws : List Int} : ws.all inW = true ↔ ∀ z ∈ ws, 0 ≤ z ∧ z ≤ mx := by
  simp only [List.all_eq_true, inW_iff]
theorem Ok.of {t : Int} {ws : List Int} (h : errS t ws = 0) : Ok t ws := by
  unfold errS at h
  cases h1 : inW t with
  | false => simp [h1] at h
  | true =>
    have ⟨a, b⟩ := inW_iff.mp h1
    by_cases h2 : ws.length = 0
    · simp [h1, h2] at h
    by_cases h3 : 512 < ws.length
    · simp [h1, h2, h3] at h
    cases h4 : ws.all inW with
    | false => simp [h1, h2, h3, h4] at h
    | true =>
      by_cases h5 : mx < sumK ws ws.length
      · simp [h1, h2, h3, h4, h5] at h
      by_cases h6 : sumK ws ws.length = 0 ∧ t ≠ 0
      · rw [if_neg (by rw [h1]; simp), if_neg h2, if_neg h3, if_neg (by rw [h4]; simp), if_neg h5, if_pos h6] at h; cases h
      exact ⟨a, b, by omega, by omega, all_in.mp h4, by omega, fun h7 => by
        rcases Int.lt_trichotomy t 0 with h8 | h8 | h8
        · exact absurd ⟨h7, by omega⟩ h6
        · exact h8
        · exact absurd ⟨h7, by omega⟩ h6⟩
theorem Ok.err {t : Int} {ws : List Int} (h : Ok t ws) : errS t ws = 0 := by
  unfold errS
  have h1 : inW t = true := inW_iff.mpr ⟨h.t0, h.t1⟩
  have h2 := h.n0
  have h3 := h.n1
  have h4 := all_in.mpr h.all
  have h5 := h.sum
  rw [if_neg (by rw [h1]; simp), if_neg (by omega), if_neg (by omega), if_neg (by rw [h4]; simp), if_neg (by omega), if_neg (fun k => k.2 (h.nil k.1))]
section
variable {t : Int} {ws : List Int}
theorem Ok.twI (h : Ok t ws) : (Share.tw (wf ws) ws.length : Int) = sumK ws ws.length := sm_sumK (fun z hz => (h.all z hz).1) (Nat.le_refl _)
theorem Ok.upto (h : Ok t ws) {k : Nat} (hk : k ≤ ws.length) : (sm (wf ws) k : Int) = sumK ws k := sm_sumK (fun z hz => (h.all z hz).1) hk
theorem Ok.upto_le (h : Ok t ws) {k : Nat} (hk : k ≤ ws.length) : 0 ≤ sumK ws k ∧ sumK ws k ≤ sumK ws ws.length := by
  rw [← h.upto hk, ← h.upto (Nat.le_refl _)]
  have := sm_mono (f := wf ws) hk
  omega
theorem Ok.w_le (h : Ok t ws) {i : Nat} (hi : i < ws.length) : wf ws i ≤ tw (wf ws) ws.length := sm_at (f := wf ws) hi
theorem Ok.zero (h : Ok t ws) (h0 : Share.tw (wf ws) ws.length = 0) : t = 0 := h.nil (by rw [← h.twI, h0]; rfl)
/-- The parts add up. -/
theorem Ok.parts (h : Ok t ws) : (sm (part t.toNat (wf ws) ws.length) ws.length : Int) = t := by
  have h0 := h.t0
  rcases Nat.eq_zero_or_pos (Share.tw (wf ws) ws.length) with hz | hz
  · have ht := h.zero hz
    rw [sm_congr (g := fun _ => 0) fun i _ => by unfold part; rw [if_pos hz], sm_const]
    omega
  · rw [part_sum hz]; omega
theorem Ok.part_le (h : Ok t ws) {i : Nat} (hi : i < ws.length) : (part t.toNat (wf ws) ws.length i : Int) ≤ t := by
  have h1 := h.parts
  have h2 := sm_at (f := part t.toNat (wf ws) ws.length) hi
  omega
theorem quo_le {T n : Nat} {w : Nat → Nat} {i : Nat} (hi : i < n) : quo T w n i ≤ T := by
  unfold quo
  have h1 : w i ≤ Share.tw w n := sm_at hi
  rcases Nat.eq_zero_or_pos (Share.tw w n) with hz | hz
  · rw [hz, Nat.div_zero]; exact Nat.zero_le _
  · exact Nat.div_le_of_le_mul (by rw [Nat.mul_comm]; exact Nat.mul_le_mul_right _ h1)
theorem bnd_le {T n : Nat} {w : Nat → Nat} {i : Nat} (hi : i < n) : bnd T w n i ≤ T := by
  unfold bnd
  split
  · exact Nat.zero_le _
  · have h1 : sm w (i + 1) ≤ Share.tw w n := sm_mono (by omega)
    exact Nat.div_le_of_le_mul (by rw [Nat.mul_comm]; exact Nat.mul_le_mul_right _ h1)
/-- The last bound is the total. -/
theorem Ok.last (h : Ok t ws) : (bnd t.toNat (wf ws) ws.length (ws.length - 1) : Int) = t := by
  have h0 := h.t0
  have hn := h.n0
  unfold bnd
  split
  · have := h.zero (by assumption); omega
  · rw [show ws.length - 1 + 1 = ws.length by omega]
    show ((t.toNat * Share.tw (wf ws) ws.length / Share.tw (wf ws) ws.length : Nat) : Int) = t
    rw [Nat.mul_div_cancel _ (by omega)]; omega
end

/-! ### The reference's division, bit by bit -/
theorem div_bit (b k : Nat) : b / 2 ^ k = 2 * (b / 2 ^ (k + 1)) + b / 2 ^ k % 2 := by
  have h : b / 2 ^ (k + 1) = b / 2 ^ k / 2 := by rw [Nat.pow_succ, Nat.div_div_eq_div_mul]
  rw [h]; omega
/-- Quotient and remainder behind the bits k and above. -/
def Dv (a b c k q r : Nat) : Prop := q * c + r = a * (b / 2 ^ k) ∧ r < c
theorem Dv.start {a b c k : Nat} (hb : b < 2 ^ k) (hc : 0 < c) : Dv a b c k 0 0 := by
  unfold Dv; rw [Nat.div_eq_of_lt hb]; simp [hc]
/-- Within a bit: what is still to be taken off. -/
def Dw (a b c k q r : Nat) : Prop := q * c + r = a * (b / 2 ^ k)
theorem Dv.one {a b c k q r : Nat} (h : Dv a b c (k + 1) q r) (hb : b / 2 ^ k % 2 = 1) : Dw a b c k (2 * q) (2 * r + a) := by
  unfold Dw
  rw [div_bit b k, hb, Nat.mul_add, Nat.mul_left_comm, ← h.1, Nat.mul_add, Nat.mul_one, Nat.mul_assoc]; omega
theorem Dv.zero {a b c k q r : Nat} (h : Dv a b c (k + 1) q r) (hb : b / 2 ^ k % 2 = 0) : Dw a b c k (2 * q) (2 * r) := by
  unfold Dw
  rw [div_bit b k, hb, Nat.add_zero, Nat.mul_left_comm, ← h.1, Nat.mul_add, Nat.mul_assoc]
theorem Dw.off {a b c k q r : Nat} (h : Dw a b c k q (r + c)) : Dw a b c k (q + 1) r := by
  unfold Dw at *; rw [Nat.succ_mul]; omega
theorem Dw.done {a b c k q r : Nat} (h : Dw a b c k q r) (hr : r < c) : Dv a b c k q r := ⟨h, hr⟩
theorem Dw.q_le {a b c k q r : Nat} (h : Dw a b c k q r) (hac : a ≤ c) (hc : 0 < c) : q ≤ b := by
  have h1 : q * c ≤ c * b := Nat.le_trans (by unfold Dw at h; omega : q * c ≤ a * (b / 2 ^ k)) (Nat.mul_le_mul hac (Nat.div_le_self _ _))
  rw [Nat.mul_comm] at h1
  exact Nat.le_of_mul_le_mul_left h1 hc
theorem Dv.q_le {a b c k q r : Nat} (h : Dv a b c k q r) (hac : a ≤ c) : q ≤ b := Dw.q_le h.1 hac (by have := h.2; omega)
theorem Dv.all {a b c q r : Nat} (h : Dv a b c 0 q r) : q = a * b / c ∧ r = a * b % c := by
  obtain ⟨h1, h2⟩ := h
  rw [Nat.pow_zero, Nat.div_one] at h1
  rw [← h1, Nat.mul_comm q c, Nat.add_comm, Nat.add_mul_div_left _ _ (by omega), Nat.add_mul_mod_self_left, Nat.div_eq_of_lt h2, Nat.mod_eq_of_lt h2]
  omega

/-! ### The first greatest of a list -/
/-- b is the first greatest one of the first i. -/
def FM (f : Nat → Int) (i b : Nat) : Prop := b < i ∧ (∀ j, j < b → f j < f b) ∧ ∀ j, b < j → j < i → f j ≤ f b
theorem FM.start (f : Nat → Int) : FM f 1 0 := ⟨by omega, fun j h => by omega, fun j h1 h2 => by omega⟩
theorem FM.new {f : Nat → Int} {i b : Nat} (h : FM f i b) (hl : f b < f i) : FM f (i + 1) i := by
  obtain ⟨h0, h1, h2⟩ := h
  refine ⟨by omega, fun j hj => ?_, fun j h3 h4 => by omega⟩
  rcases Nat.lt_trichotomy j b with h | h | h
  · have := h1 j h; omega
  · rw [h]; exact hl
  · have := h2 j h hj; omega
theorem FM.old {f : Nat → Int} {i b : Nat} (h : FM f i b) (hl : f i ≤ f b) : FM f (i + 1) b := by
  obtain ⟨h0, h1, h2⟩ := h
  refine ⟨by omega, h1, fun j h3 h4 => ?_⟩
  rcases Nat.lt_or_ge j i with h | h
  · exact h2 j h3 h
  · obtain rfl : j = i := by omega
    exact hl
theorem FM.one {f : Nat → Int} {i b c : Nat} (h : FM f i b) (k : FM f i c) : b = c := by
  rcases Nat.lt_trichotomy b c with h1 | h1 | h1
  · have h2 := k.2.1 b h1
    have h3 := h.2.2 c h1 k.1
    omega
  · exact h1
  · have h2 := h.2.1 c h1
    have h3 := k.2.2 b h1 h.1
    omega
/-- What is left of the remainders behind k units, and the parts then. -/
def lefts (r : Nat → Nat) (n k i : Nat) : Int := if rank r n i < k then -1 else (r i : Int)
def gots (q r : Nat → Nat) (n k i : Nat) : Nat := q i + if rank r n i < k then 1 else 0
theorem lefts_zero (r : Nat → Nat) (n i : Nat) : lefts r n 0 i = r i := by simp [lefts]
theorem gots_zero (q r : Nat → Nat) (n i : Nat) : gots q r n 0 i = q i := by simp [gots]
/-- The first greatest one is that of rank k. -/
theorem lefts_best {r : Nat → Nat} {n k b : Nat} (hk : k < n) (h : FM (lefts r n k) n b) : rank r n b = k := by
  obtain ⟨c, hc, hr⟩ := (rank_cnt (r := r) (n := n) k (by omega)).2 hk
  have hle : ∀ j, j < n → rank r n j < k → lefts r n k j = -1 := fun j _ h1 => if_pos h1
  have hge : ∀ j, ¬ rank r n j < k → lefts r n k j = r j := fun j h1 => if_neg h1
  have hcv := hge c (by omega)
  have : FM (lefts r n k) n c := by
    refine ⟨hc, fun j hj => ?_, fun j hj hjn => ?_⟩
    · rw [hcv]
      by_cases h1 : rank r n j < k
      · rw [hle j (by omega) h1]; omega
      · rw [hge j h1]
        rcases rank_best hc hr (i := j) (by omega) (by omega) with h2 | h2
        · omega
        · rw [bt_iff] at h2; omega
    · rw [hcv]
      by_cases h1 : rank r n j < k
      · rw [hle j (by omega) h1]; omega
      · rw [hge j h1]
        rcases rank_best hc hr (i := j) (by omega) (by omega) with h2 | h2
        · rw [h2]; exact Int.le_refl _
        · rw [bt_iff] at h2; omega
  rw [h.one this]; exact hr
theorem lefts_next {r : Nat → Nat} {n k b : Nat} (hb : b < n) (hr : rank r n b = k) {i : Nat} (hi : i < n) : lefts r n (k + 1) i = if i = b then -1 else lefts r n k i := by
  unfold lefts
  by_cases h : i = b
  · subst h; rw [if_pos (by omega), if_pos rfl]
  · have := rank_ne (r := r) hi hb h
    rw [if_neg h]
    by_cases h1 : rank r n i < k
    · rw [if_pos (by omega), if_pos h1]
    · rw [if_neg (by omega), if_neg h1]
theorem gots_next {q r : Nat → Nat} {n k b : Nat} (hb : b < n) (hr : rank r n b = k) {i : Nat} (hi : i < n) : gots q r n (k + 1) i = if i = b then gots q r n k i + 1 else gots q r n k i := by
  unfold gots
  by_cases h : i = b
  · subst h; rw [if_pos (by omega), if_pos rfl, if_neg (by omega)]
  · have := rank_ne (r := r) hi hb h
    rw [if_neg h]
    by_cases h1 : rank r n i < k
    · rw [if_pos (by omega), if_pos h1]
    · rw [if_neg (by omega), if_neg h1]
theorem gots_part {T n : Nat} {w : Nat → Nat} (h : 0 < tw w n) (i : Nat) : gots (quo T w n) (rst T w n) n (lft T w n) i = part T w n i := by
  unfold gots part
  rw [if_neg (by omega : ¬ tw w n = 0)]
/-- A list of a function's values. -/
def lst (f : Nat → Int) (n : Nat) : List Int := (List.range n).map f
theorem lst_len (f : Nat → Int) (n : Nat) : (lst f n).length = n := by simp [lst]
theorem lst_at (f : Nat → Int) {n i : Nat} (h : i < n) : (lst f n)[i]? = some (f i) := by
  unfold lst; rw [List.getElem?_map, List.getElem?_range h]; rfl
theorem lst_set {f g : Nat → Int} {n b : Nat} {v : Int} (hb : b < n) (h : ∀ i, i < n → g i = if i = b then v else f i) : (lst f n).set b v = lst g n := by
  apply List.ext_getElem?
  intro i
  rcases Nat.lt_or_ge i n with hi | hi
  · rw [lst_at g hi, List.getElem?_set, h i hi]
    by_cases hib : b = i
    · rw [if_pos hib, if_pos (by rw [lst_len]; omega), if_pos hib.symm]
    · rw [if_neg hib, if_neg (by omega), lst_at f hi]
  · rw [List.getElem?_eq_none (by rw [List.length_set, lst_len]; exact hi), List.getElem?_eq_none (by rw [lst_len]; exact hi)]
theorem lst_congr {f g : Nat → Int} {n : Nat} (h : ∀ i, i < n → f i = g i) : lst f n = lst g n := List.map_congr_left fun i hi => h i (List.mem_range.mp hi)
end Go.Proofs.YtagjimdplmimoaaGreat.Share
/- Chests: sums, errors and values of the chapter. -/
namespace Go.Proofs.YtagjimdplmimoaaGreat.Chest
open Go.Lib
open Go.Proofs.YtagjimdplmimoaaGreat.Share (sumK sumK_zero sumK_succ)
open Go.Proofs.YtagjimdplmimoaaGreat.Tank (MM inM inM_iff lisE lisE_no lisE_of lisE_mk lisE_cases lenI)
open Go.Proofs.YtagjimdplmimoaaGreat.Rw (get_lt)
set_option linter.unusedVariables false

def sumZ (l : List Int) : Int := sumK l l.length
theorem sumK_lim {l : List Int} (h : ∀ z ∈ l, 0 ≤ z ∧ z ≤ MM) : ∀ k, k ≤ l.length → 0 ≤ sumK l k ∧ sumK l k ≤ k * MM
  | 0, _ => by rw [sumK_zero]; simp
  | k + 1, hk => by
    have ih := sumK_lim h k (by omega)
    obtain ⟨z, hz⟩ : ∃ z, l[k]? = some z := ⟨_, List.getElem?_eq_getElem (by omega)⟩
    have hz2 := h z (List.mem_of_getElem? hz)
    rw [sumK_succ hz, show ((k + 1 : Nat) : Int) = (k : Int) + 1 by omega, Int.add_mul, Int.one_mul]
    omega
/-- What Check returns. -/
def ckC (cap : Int) (L : List Int) : Int :=
  if 1 ≤ cap ∧ cap ≤ MM then if 1 ≤ L.length ∧ L.length ≤ 8 then if L.all (inM MM) then if cap < sumZ L then 8 else 0 else 1 else 17 else 1
theorem ckC_cap {cap : Int} {L : List Int} (h : ¬ (1 ≤ cap ∧ cap ≤ MM)) : ckC cap L = 1 := if_neg h
theorem ckC_len {cap : Int} {L : List Int} (h : 1 ≤ cap ∧ cap ≤ MM) (h2 : ¬ (1 ≤ L.length ∧ L.length ≤ 8)) : ckC cap L = 17 := by unfold ckC; rw [if_pos h, if_neg h2]
theorem ckC_bad {cap : Int} {L : List Int} (h : 1 ≤ cap ∧ cap ≤ MM) (h2 : 1 ≤ L.length ∧ L.length ≤ 8) {k : Nat} {z : Int} (hz : L[k]? = some z) (hb : inM MM z = false) : ckC cap L = 1 := by
  unfold ckC
  have : ¬ L.all (inM MM) = true := fun ha => by
    have := List.all_eq_true.mp ha z (List.mem_of_getElem? hz)
    rw [hb] at this; cases this
  rw [if_pos h, if_pos h2, if_neg this]
theorem ckC_end {cap : Int} {L : List Int} (h : 1 ≤ cap ∧ cap ≤ MM) (h2 : 1 ≤ L.length ∧ L.length ≤ 8) (ha : ∀ (k : Nat) (z : Int), L[k]? = some z → inM MM z = true) : ckC cap L = if cap < sumZ L then 8 else 0 := by
  unfold ckC
  rw [if_pos h, if_pos h2, if_pos (List.all_eq_true.mpr fun z hz => by
    obtain ⟨k, hk⟩ := List.mem_iff_getElem?.mp hz
    exact ha k z hk)]
/-- A sound chest. -/
structure COk (cap : Int) (L : List Int) : Prop where
  room : 1 ≤ cap ∧ cap ≤ MM
  len : 1 ≤ L.length ∧ L.length ≤ 8
  all : ∀ z ∈ L, 0 ≤ z ∧ z ≤ MM
  sum : sumZ L ≤ cap
theorem ckC_ok {cap : Int} {L : List Int} (h : ckC cap L = 0) : COk cap L := by
  unfold ckC at h
  split at h
  · split at h
    · split at h
      · split at h
        · cases h
        · exact ⟨‹_›, ‹_›, fun z hz => inM_iff.mp (List.all_eq_true.mp ‹_› z hz), by omega⟩
      · cases h
    · cases h
  · cases h
theorem COk.ck {cap : Int} {L : List Int} (h : COk cap L) : ckC cap L = 0 := by
  rw [ckC_end h.room h.len fun k z hz => inM_iff.mpr (h.all z (List.mem_of_getElem? hz)), if_neg (by have := h.sum; omega)]
theorem COk.pos {cap : Int} {L : List Int} (h : COk cap L) : 0 ≤ sumZ L ∧ sumZ L ≤ MM := by
  have h1 := (sumK_lim h.all L.length (Nat.le_refl _)).1
  have h2 := h.sum
  have h3 := h.room.2
  exact ⟨h1, by omega⟩
theorem ckC_cases (cap : Int) (L : List Int) : ckC cap L = 0 ∨ ckC cap L = 1 ∨ ckC cap L = 8 ∨ ckC cap L = 17 := by
  unfold ckC
  split
  · split
    · split
      · split
        · exact Or.inr (Or.inr (Or.inl rfl))
        · exact Or.inl rfl
      · exact Or.inr (Or.inl rfl)
    · exact Or.inr (Or.inr (Or.inr rfl))
  · exact Or.inr (Or.inl rfl)
/-- Level. -/
def levV (cap : Int) (L : List Int) : Int := if ckC cap L = 0 then sumZ L else 0
/-- Rate. -/
def ratE (cap : Int) (L : List Int) (k : Int) : Int :=
  if ckC cap L = 0 then if 0 ≤ k ∧ k < (L.length : Int) then if sumZ L = 0 then 10 else 0 else 7 else ckC cap L
def ratV (cap : Int) (L : List Int) (k : Int) : Int := if ratE cap L k = 0 then (1000 * L.getD k.toNat 0).tdiv (sumZ L) else 0
theorem ratE_ck {cap : Int} {L : List Int} {k : Int} (h : ¬ ckC cap L = 0) : ratE cap L k = ckC cap L := if_neg h
theorem ratE_no {cap : Int} {L : List Int} {k : Int} (h : ckC cap L = 0) (h2 : ¬ (0 ≤ k ∧ k < (L.length : Int))) : ratE cap L k = 7 := by unfold ratE; rw [if_pos h, if_neg h2]
theorem ratE_nil {cap : Int} {L : List Int} {k : Int} (h : ckC cap L = 0) (h2 : 0 ≤ k ∧ k < (L.length : Int)) (h3 : sumZ L = 0) : ratE cap L k = 10 := by unfold ratE; rw [if_pos h, if_pos h2, if_pos h3]
theorem ratE_ok {cap : Int} {L : List Int} {k : Int} (h : ckC cap L = 0) (h2 : 0 ≤ k ∧ k < (L.length : Int)) (h3 : ¬ sumZ L = 0) : ratE cap L k = 0 := by unfold ratE; rw [if_pos h, if_pos h2, if_neg h3]
theorem ratV_no {cap : Int} {L : List Int} {k : Int} (h : ¬ ratE cap L k = 0) : ratV cap L k = 0 := if_neg h
theorem ratV_ok {cap : Int} {L : List Int} {k : Nat} {z : Int} (h : ratE cap L k = 0) (hz : L[k]? = some z) : ratV cap L k = (1000 * z).tdiv (sumZ L) := by
  unfold ratV
  rw [if_pos h, Int.toNat_natCast, List.getD_eq_getElem?_getD, hz]; rfl
/-- Masses added, taken away. -/
def plusL (L m : List Int) : List Int := List.zipWith (· + ·) L m
def lessL (L m : List Int) : List Int := List.zipWith (· - ·) L m
/-- Fill. -/
def filE (cap : Int) (L m : List Int) : Int :=
  if ckC cap L = 0 then if Tank.parE m (L.length : Int) = 0 then if cap < sumZ L + sumZ m then 8 else 0 else Tank.parE m (L.length : Int) else ckC cap L
def filC (cap : Int) (L m : List Int) : Int := if filE cap L m = 0 then cap else 0
def filL (cap : Int) (L m : List Int) : List Int := if filE cap L m = 0 then plusL L m else []
end Go.Proofs.YtagjimdplmimoaaGreat.Chest
/- sum, Check, Level of the reference. -/
namespace Go.Proofs.YtagjimdplmimoaaGreat.Chest
open Go.ChangeShapes Go.WideShapes Go.RowKit Go.Lib
open Go.Proofs.YtagjimdplmimoaaGreat.Mem (Cl eI Own)
open Go.Proofs.YtagjimdplmimoaaGreat.Share (sumK sumK_zero sumK_succ)
open Go.Proofs.YtagjimdplmimoaaGreat.Tank (MM inM inM_iff lisE lisE_no lisE_of lisE_mk lisE_cases lenI cl_at)
open Go.Proofs.YtagjimdplmimoaaGreat.Rw (glt get_lt ret_bool ret_int bstep below_drewN below_drew drew_below below_alloc)
set_option linter.unusedVariables false
set_option maxRecDepth 100000

end Go.Proofs.YtagjimdplmimoaaGreat.Chest
/- Contracts of num.inRange, num.checked, num.Add, num.Sub, num.magnitude, num.signWord, num.signed and of their counterparts in the reference. -/
namespace Go.Proofs.YtagjimdplmimoaaGreat.Num
open Go.ChangeShapes Go.WideShapes Go.RowKit
set_option linter.unusedVariables false

/-- n is from -2^50 to 2^50. -/
def InR (n : Int) : Prop := -1125899906842624 ≤ n ∧ n ≤ 1125899906842624
instance (n : Int) : Decidable (InR n) := inferInstanceAs (Decidable (_ ∧ _))
theorem inr_mk {n : Int} (h1 : -1125899906842624 ≤ n) (h2 : n ≤ 1125899906842624) : InR n := ⟨h1, h2⟩
theorem inr_not {n : Int} (h : n < -1125899906842624 ∨ 1125899906842624 < n) : ¬ InR n := by unfold InR; omega

theorem num_in_yes (n : Int) (w : World) (h1 : -1125899906842624 ≤ n) (h2 : n ≤ 1125899906842624) :
    Calls Tryz.prog 60 #[.int .i64 n] w fun e w' => e = .returned (.bool true) ∧ w = w' := by
  go_enter Tryz.func60, Tryz.ntmps60
  go_wp2
  go_ret
  exact ⟨rfl, rfl⟩

theorem num_in_no (n : Int) (w : World) (h : n < -1125899906842624 ∨ 1125899906842624 < n) :
    Calls Tryz.prog 60 #[.int .i64 n] w fun e w' => e = .returned (.bool false) ∧ w = w' := by
  rcases h with h | h
  · go_enter Tryz.func60, Tryz.ntmps60
    go_wp2
    go_ret
    exact ⟨rfl, rfl⟩
  · have h1 : -1125899906842624 ≤ n := by omega
    have h2 : decide (n ≤ 1125899906842624) = false := by simpa using h
    go_enter Tryz.func60, Tryz.ntmps60
    go_wp2
    go_ret
    exact ⟨rfl, rfl⟩

/-- The same as a Bool. -/
def inB (n : Int) : Bool := decide (InR n)
theorem inB_yes {n : Int} (h1 : -1125899906842624 ≤ n) (h2 : n ≤ 1125899906842624) : inB n = true := decide_eq_true (inr_mk h1 h2)
theorem inB_no {n : Int} (h : n < -1125899906842624 ∨ 1125899906842624 < n) : inB n = false := decide_eq_false (inr_not h)
theorem inB_cases (n : Int) : (inB n = true ∧ -1125899906842624 ≤ n ∧ n ≤ 1125899906842624) ∨ (inB n = false ∧ ¬ InR n) := by
  by_cases h : InR n
  · exact Or.inl ⟨decide_eq_true h, h⟩
  · exact Or.inr ⟨decide_eq_false h, h⟩

theorem num_in (n : Int) (w : World) : Calls Tryz.prog 60 #[.int .i64 n] w fun e w' => e = .returned (.bool (inB n)) ∧ w = w' := by
  by_cases h : -1125899906842624 ≤ n ∧ n ≤ 1125899906842624
  · exact (num_in_yes n w h.1 h.2).mono fun e w' k => by rw [inB_yes h.1 h.2]; exact k
  · exact (num_in_no n w (by omega)).mono fun e w' k => by rw [inB_no (by omega)]; exact k

/-- What a checked result is: the value, and the error. -/
def okV (n : Int) : Int := if InR n then n else 0
def okE (n : Int) : Int := if InR n then 0 else 2
theorem okV_yes {n : Int} (h1 : -1125899906842624 ≤ n) (h2 : n ≤ 1125899906842624) : okV n = n := if_pos (inr_mk h1 h2)
theorem okE_yes {n : Int} (h1 : -1125899906842624 ≤ n) (h2 : n ≤ 1125899906842624) : okE n = 0 := if_pos (inr_mk h1 h2)
theorem okV_no {n : Int} (h : n < -1125899906842624 ∨ 1125899906842624 < n) : okV n = 0 := if_neg (inr_not h)
theorem okE_no {n : Int} (h : n < -1125899906842624 ∨ 1125899906842624 < n) : okE n = 2 := if_neg (inr_not h)
theorem ret_int {k : IntKind} {a b : Int} (h : a = b) : Ending.returned (.int k a) = .returned (.int k b) := by rw [h]
theorem ret_two {a b c d : Int} (h : a = c) (k : b = d) : Ending.returned (.tuple #[.int .i64 a, .int .i64 b]) = .returned (.tuple #[.int .i64 c, .int .i64 d]) := by rw [h, k]

theorem num_checked (n : Int) (w : World) :
    Calls Tryz.prog 84 #[.int .i64 n] w fun e w' => e = .returned (.tuple #[.int .i64 (okV n), .int .i64 (okE n)]) ∧ w = w' := by
  by_cases h : -1125899906842624 ≤ n ∧ n ≤ 1125899906842624
  · obtain ⟨h1, h2⟩ := h
    go_enter Tryz.func84, Tryz.ntmps84
    go_wp2_with (go_at_call 60; refine (num_in_yes _ _ h1 h2).mono ?_; rintro e w' ⟨rfl, rfl⟩)
    go_ret2
    exact ⟨ret_two (okV_yes h1 h2).symm (okE_yes h1 h2).symm, rfl⟩
  · have h' : n < -1125899906842624 ∨ 1125899906842624 < n := by omega
    have H := Lib.hid h'
    clear h h'
    go_enter Tryz.func84, Tryz.ntmps84
    go_wp2_with (go_at_call 60; refine (num_in_no _ _ H.out).mono ?_; rintro e w' ⟨rfl, rfl⟩)
    go_ret2
    exact ⟨ret_two (okV_no H.out).symm (okE_no H.out).symm, rfl⟩

theorem num_magnitude (n : Int) (w : World) (h1 : -1125899906842624 ≤ n) (h2 : n ≤ 1125899906842624) :
    Calls Tryz.prog 86 #[.int .i64 n] w fun e w' => e = .returned (.int .u64 (n.natAbs : Int)) ∧ w = w' := by
  by_cases h : n < 0
  · go_enter Tryz.func86, Tryz.ntmps86
    go_wp2
    go_ret
    exact ⟨ret_int (by omega), rfl⟩
  · go_enter Tryz.func86, Tryz.ntmps86
    go_wp2
    go_ret
    exact ⟨ret_int (by omega), rfl⟩

end Go.Proofs.YtagjimdplmimoaaGreat.Num
/- Contracts of num.Add, num.Sub, num.signed, num.signWord, and of Add and Sub of the reference. -/
namespace Go.Proofs.YtagjimdplmimoaaGreat.Num
open Go.ChangeShapes Go.WideShapes Go.RowKit
set_option linter.unusedVariables false

/-- The result r of two arguments a and b: r, or the error of the arguments, or the error of the result. -/
def rngV (a b r : Int) : Int := if InR a ∧ InR b then okV r else 0
def rngE (a b r : Int) : Int := if InR a ∧ InR b then okE r else 1
theorem rngV_yes {a b : Int} (r : Int) (h1 : -1125899906842624 ≤ a) (h2 : a ≤ 1125899906842624) (h3 : -1125899906842624 ≤ b) (h4 : b ≤ 1125899906842624) : rngV a b r = okV r := if_pos ⟨⟨h1, h2⟩, ⟨h3, h4⟩⟩
theorem rngE_yes {a b : Int} (r : Int) (h1 : -1125899906842624 ≤ a) (h2 : a ≤ 1125899906842624) (h3 : -1125899906842624 ≤ b) (h4 : b ≤ 1125899906842624) : rngE a b r = okE r := if_pos ⟨⟨h1, h2⟩, ⟨h3, h4⟩⟩
theorem rngV_no1 {a : Int} (b r : Int) (h : ¬ InR a) : rngV a b r = 0 := if_neg (fun k => h k.1)
theorem rngE_no1 {a : Int} (b r : Int) (h : ¬ InR a) : rngE a b r = 1 := if_neg (fun k => h k.1)
theorem rngV_no2 {b : Int} (a r : Int) (h : ¬ InR b) : rngV a b r = 0 := if_neg (fun k => h k.2)
theorem rngE_no2 {b : Int} (a r : Int) (h : ¬ InR b) : rngE a b r = 1 := if_neg (fun k => h k.2)

/-- signed: a magnitude m and a sign. -/
theorem num_signed_pos (m : Nat) (w : World) (hm : m < 18446744073709551616) :
    Calls Tryz.prog 89 #[.int .u64 (m : Int), .bool false] w fun e w' => e = .returned (.tuple #[.int .i64 (okV (m : Int)), .int .i64 (okE (m : Int))]) ∧ w = w' := by
  by_cases h : 1125899906842624 < (m : Int)
  · go_enter Tryz.func89, Tryz.ntmps89
    go_wp2
    go_ret2
    exact ⟨ret_two (okV_no (by omega)).symm (okE_no (by omega)).symm, rfl⟩
  · have h2 : (m : Int) ≤ 1125899906842624 := by omega
    go_enter Tryz.func89, Tryz.ntmps89
    go_wp2
    go_ret2
    exact ⟨ret_two (okV_yes (by omega) (by omega)).symm (okE_yes (by omega) (by omega)).symm, rfl⟩

theorem num_signed_neg (m : Nat) (w : World) (hm : m < 18446744073709551616) :
    Calls Tryz.prog 89 #[.int .u64 (m : Int), .bool true] w fun e w' => e = .returned (.tuple #[.int .i64 (okV (-(m : Int))), .int .i64 (okE (-(m : Int)))]) ∧ w = w' := by
  by_cases h : 1125899906842624 < (m : Int)
  · go_enter Tryz.func89, Tryz.ntmps89
    go_wp2
    go_ret2
    exact ⟨ret_two (okV_no (by omega)).symm (okE_no (by omega)).symm, rfl⟩
  · have h2 : (m : Int) ≤ 1125899906842624 := by omega
    go_enter Tryz.func89, Tryz.ntmps89
    go_wp2
    go_ret2
    exact ⟨ret_two (okV_yes (by omega) (by omega)).symm (okE_yes (by omega) (by omega)).symm, rfl⟩

/-- The high word of n in two's complement. -/
def signW (n : Int) : Int := if n < 0 then 18446744073709551615 else 0
theorem num_signWord (n : Int) (w : World) :
    Calls Tryz.prog 83 #[.int .i64 n] w fun e w' => e = .returned (.int .u64 (signW n)) ∧ w = w' := by
  by_cases h : n < 0
  · go_enter Tryz.func83, Tryz.ntmps83
    go_wp2
    go_ret
    exact ⟨ret_int (if_pos h).symm, rfl⟩
  · go_enter Tryz.func83, Tryz.ntmps83
    go_wp2
    go_ret
    exact ⟨ret_int (if_neg (by omega)).symm, rfl⟩
end Go.Proofs.YtagjimdplmimoaaGreat.Num
/- Contracts of num's wide integers: plus and narrow. -/
namespace Go.Proofs.YtagjimdplmimoaaGreat.Num
open Go.ChangeShapes Go.WideShapes Go.RowKit
set_option linter.unusedVariables false

/-- math/bits.Add64 at this program. -/
theorem bits_add64 (x y c : Int) (hx : 0 ≤ x) (hy : 0 ≤ y) (hc0 : 0 ≤ c) (hc : c ≤ 1) (w : World) :
    (callFunc 82 #[.int .u64 x, .int .u64 y, .int .u64 c]).run Tryz.prog w =
      .ok (.value (.tuple #[.int .u64 ((x + y + c) % 18446744073709551616), .int .u64 ((x + y + c) / 18446744073709551616)])) w := by
  rw [run_callFunc_extern Tryz.func82 (by kernel_rfl) (by kernel_rfl) (by kernel_rfl) (e := add64Entry) (by kernel_rfl), run_add64 x y c hx hy hc0 hc]
  rfl

/-- The words of s in two's complement, and what adding n makes of them. -/
def hiW (s : Int) : Int := s / 18446744073709551616 % 18446744073709551616
def loW (s : Int) : Int := s % 18446744073709551616
theorem hiW_bd (s : Int) : 0 ≤ hiW s ∧ hiW s < 18446744073709551616 := by unfold hiW; omega
theorem loW_bd (s : Int) : 0 ≤ loW s ∧ loW s < 18446744073709551616 := by unfold loW; omega
theorem signW_bd (n : Int) : 0 ≤ signW n ∧ signW n < 18446744073709551616 := by unfold signW; split <;> omega
def carW (s n : Int) : Int := (loW s + n % 18446744073709551616 + 0) / 18446744073709551616
def carW2 (s n : Int) : Int := (hiW s + signW n + carW s n) / 18446744073709551616
theorem loW_add (s n : Int) : (loW s + n % 18446744073709551616 + 0) % 18446744073709551616 = loW (s + n) := by unfold loW; omega
theorem hiW_add (s n : Int) (h1 : -9223372036854775808 ≤ n) (h2 : n ≤ 9223372036854775807) :
    (hiW s + signW n + carW s n) % 18446744073709551616 = hiW (s + n) := by
  unfold hiW carW loW signW
  split <;> omega
theorem add_low (s n : Int) (w : World) :
    (callFunc 82 #[.int .u64 (loW s), .int .u64 (IntKind.u64.wrap n), .int .u64 0]).run Tryz.prog w = .ok (.value (.tuple #[.int .u64 (loW (s + n)), .int .u64 (carW s n)])) w := by
  have e : IntKind.u64.wrap n = n % 18446744073709551616 := by rw [IntKind.wrap_u64]
  have b := loW_bd s
  rw [e, bits_add64 _ _ _ b.1 (by omega) (by omega) (by omega), loW_add]
  rfl
theorem add_high (s n : Int) (w : World) (h1 : -9223372036854775808 ≤ n) (h2 : n ≤ 9223372036854775807) :
    (callFunc 82 #[.int .u64 (hiW s), .int .u64 (signW n), .int .u64 (carW s n)]).run Tryz.prog w = .ok (.value (.tuple #[.int .u64 (hiW (s + n)), .int .u64 (carW2 s n)])) w := by
  have b := hiW_bd s
  have c := signW_bd n
  have l := loW_bd s
  rw [bits_add64 _ _ _ b.1 c.1 (by unfold carW; omega) (by unfold carW; omega), hiW_add s n h1 h2]
  rfl

set_option maxHeartbeats 400000 in
theorem num_plus (s n : Int) (w : World) (h1 : -1125899906842624 ≤ n) (h2 : n ≤ 1125899906842624) :
    Calls Tryz.prog 61 #[.agg #[.int .u64 (hiW s), .int .u64 (loW s)], .int .i64 n] w fun e w' => e = .returned (.agg #[.int .u64 (hiW (s + n)), .int .u64 (loW (s + n))]) ∧ Below w.heap.size w w' := by
  have ha := add_low s n
  have hb := fun W => add_high s n W (by omega) (by omega)
  have hbl : Below w.heap.size w (((w.alloc (.cells #[.int .u64 (hiW s), .int .u64 (loW s)] 93)).alloc (.cells #[.int .u64 0, .int .u64 0] 93)).alloc (.cells #[.int .u64 0, .int .u64 (loW (s + n))] 93)) :=
    (((Below.refl _ _).alloc (Nat.le_refl _) _).alloc (by simp) _).alloc (by simp; omega) _
  go_enter Tryz.func61, Tryz.ntmps61
  go_wp2_with fail
  go_region_with (go_at_call 83; refine (num_signWord n _).mono ?_; rintro e w' ⟨rfl, rfl⟩)
  all_goals go_wp2
  all_goals exact bodyPost_ret (v := .agg #[.int .u64 (hiW (s + n)), .int .u64 (loW (s + n))]) (by simp [results, Tryz.results61, go_sem]) rfl ⟨rfl, ((((Below.refl _ _).alloc (Nat.le_refl _) _).alloc (by simp) _).alloc (by simp; omega) _).drew⟩

theorem wrap_small {s : Int} (h1 : -9223372036854775808 ≤ s) (h2 : s ≤ 9223372036854775807) : wrap64 (loW s) = s := by unfold wrap64 loW; omega
theorem hi_small {s : Int} (h1 : -9223372036854775808 ≤ s) (h2 : s ≤ 9223372036854775807) : (hiW s != signW s) = false := by
  have e : hiW s = signW s := by unfold hiW signW; split <;> omega
  rw [e]; simp
theorem hi_big {s : Int} (h1 : s < -9223372036854775808 ∨ 9223372036854775807 < s) (h2 : -85070591730234615865843651857942052864 ≤ s) (h3 : s ≤ 85070591730234615865843651857942052864) : (hiW s != signW (wrap64 (loW s))) = true := by
  have e : ¬ hiW s = signW (wrap64 (loW s)) := by unfold hiW signW wrap64 loW; split <;> omega
  simpa using e

theorem num_narrow (s : Int) (w : World) (h2 : -85070591730234615865843651857942052864 ≤ s) (h3 : s ≤ 85070591730234615865843651857942052864) :
    Calls Tryz.prog 62 #[.agg #[.int .u64 (hiW s), .int .u64 (loW s)]] w fun e w' => e = .returned (.tuple #[.int .i64 (okV s), .int .i64 (okE s)]) ∧ Below w.heap.size w w' := by
  by_cases hs : -9223372036854775808 ≤ s ∧ s ≤ 9223372036854775807
  · have e1 := wrap_small hs.1 hs.2
    have e2 := hi_small hs.1 hs.2
    clear hs h2 h3
    go_enter Tryz.func62, Tryz.ntmps62
    go_wp2_with fail
    go_quiet ((go_at_call 83; exact Calls.quiet_of_same ((num_signWord _ _).mono fun _ _ k => ⟨k.1, k.2.symm⟩)))
    go_wp2_with (go_at_call 84; refine (num_checked _ _).mono ?_; rintro e w' ⟨rfl, rfl⟩)
    go_ret2
    exact ⟨rfl, below_drewN ((Below.refl _ _).alloc (Nat.le_refl _) _) _⟩
  · have e2 := hi_big (s := s) (by omega) h2 h3
    have HS := Lib.hid hs
    clear hs
    go_enter Tryz.func62, Tryz.ntmps62
    go_wp2_with fail
    go_quiet ((go_at_call 83; exact Calls.quiet_of_same ((num_signWord _ _).mono fun _ _ k => ⟨k.1, k.2.symm⟩)))
    go_wp2
    go_ret2
    have hh := HS.out
    exact ⟨ret_two (okV_no (by omega)).symm (okE_no (by omega)).symm, below_drewN ((Below.refl _ _).alloc (Nat.le_refl _) _) _⟩
end Go.Proofs.YtagjimdplmimoaaGreat.Num
