/- Exact division of amounts among weights: errors, lists, the reference's loops. Pure. -/
import Derived.Test.YtdolhanniiejfaaShareA
namespace Go.Proofs.Ytdolhanniiejfaa.Share
set_option linter.unusedVariables false

/-! ### Lists of integers -/
abbrev mx : Int := 1125899906842624
def inW (z : Int) : Bool := decide (0 ≤ z) && decide (z ≤ mx)
theorem inW_iff {z : Int} : inW z = true ↔ 0 ≤ z ∧ z ≤ mx := by simp [inW]
theorem inW_no {z : Int} : inW z = false ↔ z < 0 ∨ mx < z := by
  cases h : inW z with
  | true => rw [inW_iff] at h; simp; omega
  | false =>
    have : ¬ (0 ≤ z ∧ z ≤ mx) := fun k => by rw [inW_iff.mpr k] at h; cases h
    simp; omega
def wf (ws : List Int) (i : Nat) : Nat := (ws.getD i 0).toNat
/-- The sum of the first k. -/
def sumK (ws : List Int) (k : Nat) : Int := (ws.take k).foldl (· + ·) 0
theorem sumK_zero (ws : List Int) : sumK ws 0 = 0 := rfl
theorem sumK_succ {ws : List Int} {k : Nat} {z : Int} (h : ws[k]? = some z) : sumK ws (k + 1) = sumK ws k + z := by
  unfold sumK
  rw [List.take_add_one, h]
  simp [List.foldl_append]
theorem wf_at {ws : List Int} {k : Nat} {z : Int} (h : ws[k]? = some z) (h0 : 0 ≤ z) : (wf ws k : Int) = z := by
  unfold wf
  rw [List.getD_eq_getElem?_getD, h]
  simp; omega
theorem sm_sumK {ws : List Int} (ha : ∀ z ∈ ws, 0 ≤ z) : ∀ {k : Nat}, k ≤ ws.length → (sm (wf ws) k : Int) = sumK ws k
  | 0, _ => rfl
  | k + 1, h => by
    have hk : ws[k]? = some ws[k] := List.getElem?_eq_getElem (by omega)
    rw [sm, sumK_succ hk, ← sm_sumK ha (by omega), ← wf_at hk (ha _ (List.getElem_mem _))]
    simp
/-- The errors of Split. -/
def errS (t : Int) (ws : List Int) : Nat :=
  if inW t = false then 1 else if ws.length = 0 then 10 else if 512 < ws.length then 8 else if ws.all inW = false then 1
  else if mx < sumK ws ws.length then 2 else if sumK ws ws.length = 0 ∧ t ≠ 0 then 16 else 0
def partsL (t : Int) (ws : List Int) : List Int := (List.range ws.length).map fun i => (part t.toNat (wf ws) ws.length i : Int)
def bndsL (t : Int) (ws : List Int) : List Int := (List.range ws.length).map fun i => (bnd t.toNat (wf ws) ws.length i : Int)
theorem partsL_len (t : Int) (ws : List Int) : (partsL t ws).length = ws.length := by simp [partsL]
theorem bndsL_len (t : Int) (ws : List Int) : (bndsL t ws).length = ws.length := by simp [bndsL]
theorem partsL_at (t : Int) {ws : List Int} {i : Nat} (h : i < ws.length) : (partsL t ws)[i]? = some (part t.toNat (wf ws) ws.length i : Int) := by
  unfold partsL
  rw [List.getElem?_map, List.getElem?_range h]; rfl
theorem bndsL_at (t : Int) {ws : List Int} {i : Nat} (h : i < ws.length) : (bndsL t ws)[i]? = some (bnd t.toNat (wf ws) ws.length i : Int) := by
  unfold bndsL
  rw [List.getElem?_map, List.getElem?_range h]; rfl
/-- What no error says. -/
structure Ok (t : Int) (ws : List Int) : Prop where
  t0 : 0 ≤ t
  t1 : t ≤ mx
  n0 : 0 < ws.length
  n1 : ws.length ≤ 512
  all : ∀ z ∈ ws, 0 ≤ z ∧ z ≤ mx
  sum : sumK ws ws.length ≤ mx
  nil : sumK ws ws.length = 0 → t = 0
theorem all_in {ws : List Int} : ws.all inW = true ↔ ∀ z ∈ ws, 0 ≤ z ∧ z ≤ mx := by
  simp only [List.all_eq_true, inW_iff]
theorem Ok.of {t : Int} {ws : List Int} (h : errS t ws = 0) : Ok t ws := by
  unfold errS at h
  cases h1 : inW t with
  | false => simp [h1] at h
  | true =>
    have ⟨a, b⟩ := inW_iff.mp h1
    by_cases h2 : ws.length = 0
    · simp [h1, h2] at h
    by_cases h3 : 512 < ws.length
    · simp [h1, h2, h3] at h
    cases h4 : ws.all inW with
    | false => simp [h1, h2, h3, h4] at h
    | true =>
      by_cases h5 : mx < sumK ws ws.length
      · simp [h1, h2, h3, h4, h5] at h
      by_cases h6 : sumK ws ws.length = 0 ∧ t ≠ 0
      · rw [if_neg (by rw [h1]; simp), if_neg h2, if_neg h3, if_neg (by rw [h4]; simp), if_neg h5, if_pos h6] at h; cases h
      exact ⟨a, b, by omega, by omega, all_in.mp h4, by omega, fun h7 => by
        rcases Int.lt_trichotomy t 0 with h8 | h8 | h8
        · exact absurd ⟨h7, by omega⟩ h6
        · exact h8
        · exact absurd ⟨h7, by omega⟩ h6⟩
theorem Ok.err {t : Int} {ws : List Int} (h : Ok t ws) : errS t ws = 0 := by
  unfold errS
  have h1 : inW t = true := inW_iff.mpr ⟨h.t0, h.t1⟩
  have h2 := h.n0
  have h3 := h.n1
  have h4 := all_in.mpr h.all
  have h5 := h.sum
  rw [if_neg (by rw [h1]; simp), if_neg (by omega), if_neg (by omega), if_neg (by rw [h4]; simp), if_neg (by omega), if_neg (fun k => k.2 (h.nil k.1))]
section
variable {t : Int} {ws : List Int}
theorem Ok.twI (h : Ok t ws) : (Share.tw (wf ws) ws.length : Int) = sumK ws ws.length := sm_sumK (fun z hz => (h.all z hz).1) (Nat.le_refl _)
theorem Ok.upto (h : Ok t ws) {k : Nat} (hk : k ≤ ws.length) : (sm (wf ws) k : Int) = sumK ws k := sm_sumK (fun z hz => (h.all z hz).1) hk
theorem Ok.upto_le (h : Ok t ws) {k : Nat} (hk : k ≤ ws.length) : 0 ≤ sumK ws k ∧ sumK ws k ≤ sumK ws ws.length := by
  rw [← h.upto hk, ← h.upto (Nat.le_refl _)]
  have := sm_mono (f := wf ws) hk
  omega
theorem Ok.w_le (h : Ok t ws) {i : Nat} (hi : i < ws.length) : wf ws i ≤ tw (wf ws) ws.length := sm_at (f := wf ws) hi
theorem Ok.zero (h : Ok t ws) (h0 : Share.tw (wf ws) ws.length = 0) : t = 0 := h.nil (by rw [← h.twI, h0]; rfl)
/-- The parts add up. -/
theorem Ok.parts (h : Ok t ws) : (sm (part t.toNat (wf ws) ws.length) ws.length : Int) = t := by
  have h0 := h.t0
  rcases Nat.eq_zero_or_pos (Share.tw (wf ws) ws.length) with hz | hz
  · have ht := h.zero hz
    rw [sm_congr (g := fun _ => 0) fun i _ => by unfold part; rw [if_pos hz], sm_const]
    omega
  · rw [part_sum hz]; omega
theorem Ok.part_le (h : Ok t ws) {i : Nat} (hi : i < ws.length) : (part t.toNat (wf ws) ws.length i : Int) ≤ t := by
  have h1 := h.parts
  have h2 := sm_at (f := part t.toNat (wf ws) ws.length) hi
  omega
theorem quo_le {T n : Nat} {w : Nat → Nat} {i : Nat} (hi : i < n) : quo T w n i ≤ T := by
  unfold quo
  have h1 : w i ≤ Share.tw w n := sm_at hi
  rcases Nat.eq_zero_or_pos (Share.tw w n) with hz | hz
  · rw [hz, Nat.div_zero]; exact Nat.zero_le _
  · exact Nat.div_le_of_le_mul (by rw [Nat.mul_comm]; exact Nat.mul_le_mul_right _ h1)
theorem bnd_le {T n : Nat} {w : Nat → Nat} {i : Nat} (hi : i < n) : bnd T w n i ≤ T := by
  unfold bnd
  split
  · exact Nat.zero_le _
  · have h1 : sm w (i + 1) ≤ Share.tw w n := sm_mono (by omega)
    exact Nat.div_le_of_le_mul (by rw [Nat.mul_comm]; exact Nat.mul_le_mul_right _ h1)
/-- The last bound is the total. -/
theorem Ok.last (h : Ok t ws) : (bnd t.toNat (wf ws) ws.length (ws.length - 1) : Int) = t := by
  have h0 := h.t0
  have hn := h.n0
  unfold bnd
  split
  · have := h.zero (by assumption); omega
  · rw [show ws.length - 1 + 1 = ws.length by omega]
    show ((t.toNat * Share.tw (wf ws) ws.length / Share.tw (wf ws) ws.length : Nat) : Int) = t
    rw [Nat.mul_div_cancel _ (by omega)]; omega
end

/-! ### The reference's division, bit by bit -/
theorem div_bit (b k : Nat) : b / 2 ^ k = 2 * (b / 2 ^ (k + 1)) + b / 2 ^ k % 2 := by
  have h : b / 2 ^ (k + 1) = b / 2 ^ k / 2 := by rw [Nat.pow_succ, Nat.div_div_eq_div_mul]
  rw [h]; omega
/-- Quotient and remainder behind the bits k and above. -/
def Dv (a b c k q r : Nat) : Prop := q * c + r = a * (b / 2 ^ k) ∧ r < c
theorem Dv.start {a b c k : Nat} (hb : b < 2 ^ k) (hc : 0 < c) : Dv a b c k 0 0 := by
  unfold Dv; rw [Nat.div_eq_of_lt hb]; simp [hc]
/-- Within a bit: what is still to be taken off. -/
def Dw (a b c k q r : Nat) : Prop := q * c + r = a * (b / 2 ^ k)
theorem Dv.one {a b c k q r : Nat} (h : Dv a b c (k + 1) q r) (hb : b / 2 ^ k % 2 = 1) : Dw a b c k (2 * q) (2 * r + a) := by
  unfold Dw
  rw [div_bit b k, hb, Nat.mul_add, Nat.mul_left_comm, ← h.1, Nat.mul_add, Nat.mul_one, Nat.mul_assoc]; omega
theorem Dv.zero {a b c k q r : Nat} (h : Dv a b c (k + 1) q r) (hb : b / 2 ^ k % 2 = 0) : Dw a b c k (2 * q) (2 * r) := by
  unfold Dw
  rw [div_bit b k, hb, Nat.add_zero, Nat.mul_left_comm, ← h.1, Nat.mul_add, Nat.mul_assoc]
theorem Dw.off {a b c k q r : Nat} (h : Dw a b c k q (r + c)) : Dw a b c k (q + 1) r := by
  unfold Dw at *; rw [Nat.succ_mul]; omega
theorem Dw.done {a b c k q r : Nat} (h : Dw a b c k q r) (hr : r < c) : Dv a b c k q r := ⟨h, hr⟩
theorem Dw.q_le {a b c k q r : Nat} (h : Dw a b c k q r) (hac : a ≤ c) (hc : 0 < c) : q ≤ b := by
  have h1 : q * c ≤ c * b := Nat.le_trans (by unfold Dw at h; omega : q * c ≤ a * (b / 2 ^ k)) (Nat.mul_le_mul hac (Nat.div_le_self _ _))
  rw [Nat.mul_comm] at h1
  exact Nat.le_of_mul_le_mul_left h1 hc
theorem Dv.q_le {a b c k q r : Nat} (h : Dv a b c k q r) (hac : a ≤ c) : q ≤ b := Dw.q_le h.1 hac (by have := h.2; omega)
theorem Dv.all {a b c q r : Nat} (h : Dv a b c 0 q r) : q = a * b / c ∧ r = a * b % c := by
  obtain ⟨h1, h2⟩ := h
  rw [Nat.pow_zero, Nat.div_one] at h1
  rw [← h1, Nat.mul_comm q c, Nat.add_comm, Nat.add_mul_div_left _ _ (by omega), Nat.add_mul_mod_self_left, Nat.div_eq_of_lt h2, Nat.mod_eq_of_lt h2]
  omega

/-! ### The first greatest of a list -/
/-- b is the first greatest one of the first i. -/
def FM (f : Nat → Int) (i b : Nat) : Prop := b < i ∧ (∀ j, j < b → f j < f b) ∧ ∀ j, b < j → j < i → f j ≤ f b
theorem FM.start (f : Nat → Int) : FM f 1 0 := ⟨by omega, fun j h => by omega, fun j h1 h2 => by omega⟩
theorem FM.new {f : Nat → Int} {i b : Nat} (h : FM f i b) (hl : f b < f i) : FM f (i + 1) i := by
  obtain ⟨h0, h1, h2⟩ := h
  refine ⟨by omega, fun j hj => ?_, fun j h3 h4 => by omega⟩
  rcases Nat.lt_trichotomy j b with h | h | h
  · have := h1 j h; omega
  · rw [h]; exact hl
  · have := h2 j h hj; omega
theorem FM.old {f : Nat → Int} {i b : Nat} (h : FM f i b) (hl : f i ≤ f b) : FM f (i + 1) b := by
  obtain ⟨h0, h1, h2⟩ := h
  refine ⟨by omega, h1, fun j h3 h4 => ?_⟩
  rcases Nat.lt_or_ge j i with h | h
  · exact h2 j h3 h
  · obtain rfl : j = i := by omega
    exact hl
theorem FM.one {f : Nat → Int} {i b c : Nat} (h : FM f i b) (k : FM f i c) : b = c := by
  rcases Nat.lt_trichotomy b c with h1 | h1 | h1
  · have h2 := k.2.1 b h1
    have h3 := h.2.2 c h1 k.1
    omega
  · exact h1
  · have h2 := h.2.1 c h1
    have h3 := k.2.2 b h1 h.1
    omega
/-- What is left of the remainders behind k units, and the parts then. -/
def lefts (r : Nat → Nat) (n k i : Nat) : Int := if rank r n i < k then -1 else (r i : Int)
def gots (q r : Nat → Nat) (n k i : Nat) : Nat := q i + if rank r n i < k then 1 else 0
theorem lefts_zero (r : Nat → Nat) (n i : Nat) : lefts r n 0 i = r i := by simp [lefts]
theorem gots_zero (q r : Nat → Nat) (n i : Nat) : gots q r n 0 i = q i := by simp [gots]
/-- The first greatest one is that of rank k. -/
theorem lefts_best {r : Nat → Nat} {n k b : Nat} (hk : k < n) (h : FM (lefts r n k) n b) : rank r n b = k := by
  obtain ⟨c, hc, hr⟩ := (rank_cnt (r := r) (n := n) k (by omega)).2 hk
  have hle : ∀ j, j < n → rank r n j < k → lefts r n k j = -1 := fun j _ h1 => if_pos h1
  have hge : ∀ j, ¬ rank r n j < k → lefts r n k j = r j := fun j h1 => if_neg h1
  have hcv := hge c (by omega)
  have : FM (lefts r n k) n c := by
    refine ⟨hc, fun j hj => ?_, fun j hj hjn => ?_⟩
    · rw [hcv]
      by_cases h1 : rank r n j < k
      · rw [hle j (by omega) h1]; omega
      · rw [hge j h1]
        rcases rank_best hc hr (i := j) (by omega) (by omega) with h2 | h2
        · omega
        · rw [bt_iff] at h2; omega
    · rw [hcv]
      by_cases h1 : rank r n j < k
      · rw [hle j (by omega) h1]; omega
      · rw [hge j h1]
        rcases rank_best hc hr (i := j) (by omega) (by omega) with h2 | h2
        · rw [h2]; exact Int.le_refl _
        · rw [bt_iff] at h2; omega
  rw [h.one this]; exact hr
theorem lefts_next {r : Nat → Nat} {n k b : Nat} (hb : b < n) (hr : rank r n b = k) {i : Nat} (hi : i < n) : lefts r n (k + 1) i = if i = b then -1 else lefts r n k i := by
  unfold lefts
  by_cases h : i = b
  · subst h; rw [if_pos (by omega), if_pos rfl]
  · have := rank_ne (r := r) hi hb h
    rw [if_neg h]
    by_cases h1 : rank r n i < k
    · rw [if_pos (by omega), if_pos h1]
    · rw [if_neg (by omega), if_neg h1]
theorem gots_next {q r : Nat → Nat} {n k b : Nat} (hb : b < n) (hr : rank r n b = k) {i : Nat} (hi : i < n) : gots q r n (k + 1) i = if i = b then gots q r n k i + 1 else gots q r n k i := by
  unfold gots
  by_cases h : i = b
  · subst h; rw [if_pos (by omega), if_pos rfl, if_neg (by omega)]
  · have := rank_ne (r := r) hi hb h
    rw [if_neg h]
    by_cases h1 : rank r n i < k
    · rw [if_pos (by omega), if_pos h1]
    · rw [if_neg (by omega), if_neg h1]
theorem gots_part {T n : Nat} {w : Nat → Nat} (h : 0 < tw w n) (i : Nat) : gots (quo T w n) (rst T w n) n (lft T w n) i = part T w n i := by
  unfold gots part
  rw [if_neg (by omega : ¬ tw w n = 0)]
/-- A list of a function's values. -/
def lst (f : Nat → Int) (n : Nat) : List Int := (List.range n).map f
theorem lst_len (f : Nat → Int) (n : Nat) : (lst f n).length = n := by simp [lst]
theorem lst_at (f : Nat → Int) {n i : Nat} (h : i < n) : (lst f n)[i]? = some (f i) := by
  unfold lst; rw [List.getElem?_map, List.getElem?_range h]; rfl
theorem lst_set {f g : Nat → Int} {n b : Nat} {v : Int} (hb : b < n) (h : ∀ i, i < n → g i = if i = b then v else f i) : (lst f n).set b v = lst g n := by
  apply List.ext_getElem?
  intro i
  rcases Nat.lt_or_ge i n with hi | hi
  · rw [lst_at g hi, List.getElem?_set, h i hi]
    by_cases hib : b = i
    · rw [if_pos hib, if_pos (by rw [lst_len]; omega), if_pos hib.symm]
    · rw [if_neg hib, if_neg (by omega), lst_at f hi]
  · rw [List.getElem?_eq_none (by rw [List.length_set, lst_len]; exact hi), List.getElem?_eq_none (by rw [lst_len]; exact hi)]
theorem lst_congr {f g : Nat → Int} {n : Nat} (h : ∀ i, i < n → f i = g i) : lst f n = lst g n := List.map_congr_left fun i hi => h i (List.mem_range.mp hi)
#print axioms lefts_best
#print axioms Ok.last
#print axioms Dv.all
end Go.Proofs.Ytdolhanniiejfaa.Share
