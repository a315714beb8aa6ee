/- What Check answers; the reference's scaling and its line (pure). -/
import Derived.Test.YtkbnhmgladkojaaAlignB
namespace Go.Proofs.Ytkbnhmgladkojaa.Align
set_option linter.unusedVariables false

/-! ### Check -/
def inM (m : Mk) : Bool := decide (0 ≤ m.1) && (decide (m.1 ≤ 17179869184) && (decide (0 ≤ m.2) && decide (m.2 ≤ 17179869184)))
def groB (m : Mk) : List Mk → Bool
  | [] => true
  | n :: r => (decide (m.1 < n.1) && decide (m.2 < n.2)) && groB n r
def groL : List Mk → Bool
  | [] => true
  | m :: r => groB m r
def chkA (L : List Mk) : Int := if 64 < L.length then 8 else if L.length < 2 then 10 else if L.all inM then (if groL L then 0 else 9) else 1
theorem groB_iff : ∀ {r : List Mk} {m : Mk}, groB m r = true ↔ Gro m r
  | [], m => by simp [groB, Gro]
  | n :: r, m => by simp only [groB, Gro, Aft, Bool.and_eq_true, decide_eq_true_iff, groB_iff (r := r) (m := n)]
theorem inM_iff {m : Mk} : inM m = true ↔ 0 ≤ m.1 ∧ m.1 ≤ 17179869184 ∧ 0 ≤ m.2 ∧ m.2 ≤ 17179869184 := by
  unfold inM; simp only [Bool.and_eq_true, decide_eq_true_iff]
/-- Marks that are accepted. -/
structure Va (m : Mk) (r : List Mk) : Prop where
  two : 1 ≤ r.length
  few : r.length ≤ 63
  all : ∀ x ∈ m :: r, 0 ≤ x.1 ∧ x.1 ≤ 17179869184 ∧ 0 ≤ x.2 ∧ x.2 ≤ 17179869184
  gro : Gro m r
theorem Va.of {L : List Mk} (h : chkA L = 0) : ∃ m r, L = m :: r ∧ Va m r := by
  unfold chkA at h
  by_cases h1 : 64 < L.length
  · rw [if_pos h1] at h; cases h
  rw [if_neg h1] at h
  by_cases h2 : L.length < 2
  · rw [if_pos h2] at h; cases h
  rw [if_neg h2] at h
  by_cases h3 : L.all inM = true
  · rw [if_pos h3] at h
    by_cases h4 : groL L = true
    · cases L with
      | nil => simp at h2
      | cons m r =>
        simp only [List.length_cons] at h1 h2
        exact ⟨m, r, rfl, by omega, by omega, fun x hx => inM_iff.mp (List.all_eq_true.mp h3 x hx), groB_iff.mp h4⟩
    · rw [if_neg h4] at h; cases h
  · rw [if_neg h3] at h; cases h
theorem Va.chk {m : Mk} {r : List Mk} (h : Va m r) : chkA (m :: r) = 0 := by
  unfold chkA
  have h1 := h.two
  have h2 := h.few
  rw [if_neg (by simp only [List.length_cons]; omega), if_neg (by simp only [List.length_cons]; omega), if_pos (List.all_eq_true.mpr fun x hx => inM_iff.mpr (h.all x hx)), if_pos (show groL (m :: r) = true from groB_iff.mpr h.gro)]
theorem end_mem : ∀ (r : List Mk) (m : Mk), end_ m r ∈ m :: r
  | [], m => by simp [end_]
  | n :: r, m => by unfold end_; exact List.mem_cons_of_mem _ (end_mem r n)
theorem Va.fwd_in {m : Mk} {r : List Mk} (h : Va m r) {a : Int} (h0 : m.1 ≤ a) (h1 : a ≤ (end_ m r).1) : m.2 ≤ fwd m r a ∧ fwd m r a ≤ (end_ m r).2 := by
  have e1 := fwd_mono h.gro h0 h1
  rw [fwd_hi h.gro] at e1
  exact ⟨e1.2, e1.1⟩
theorem mem_thn : ∀ (l : List Mk) (p x : Mk), x ∈ thn p l → x ∈ l
  | [], _, _, h => h
  | [n], _, _, h => h
  | m :: n :: r, p, x, h => by
    rw [thn] at h
    split at h
    · exact List.mem_cons_of_mem _ (mem_thn (n :: r) p x h)
    · rcases List.mem_cons.mp h with rfl | h
      · simp
      · exact List.mem_cons_of_mem _ (mem_thn (n :: r) m x h)
theorem thn_pos : ∀ (r : List Mk) (n p : Mk), 1 ≤ (thn p (n :: r)).length
  | [], n, p => by simp [thn]
  | k :: r, n, p => by
    rw [thn]
    split
    · exact thn_pos r k p
    · simp
/-- Thinned marks are accepted. -/
theorem Va.thin {m : Mk} {r : List Mk} (h : Va m r) : Va m (thn m r) := by
  refine ⟨?_, Nat.le_trans (thn_len r m) h.few, fun x hx => ?_, thn_gro r m h.gro⟩
  · cases r with
    | nil => exact absurd h.two (by simp)
    | cons n r => exact thn_pos r n m
  · rcases List.mem_cons.mp hx with rfl | hx
    · exact h.all _ (by simp)
    · exact h.all x (List.mem_cons_of_mem _ (mem_thn r m x hx))

/-! ### Scale, bit by bit -/
/-- Ahead of the bit 2^k. -/
def Sc (a b c : Int) (k : Nat) (q r : Int) : Prop := q * c + r = a * (b / (2 ^ k : Int)) ∧ 0 ≤ r ∧ r < c
theorem pow_succ_div {b : Int} (k : Nat) : b / (2 ^ k : Int) = 2 * (b / (2 ^ (k + 1) : Int)) + b / (2 ^ k : Int) % 2 := by
  rw [Int.pow_succ, ← Int.ediv_ediv_of_nonneg (Int.le_of_lt (Int.pow_pos (by decide)))]
  omega
theorem Sc.start {a b c : Int} (hc : 1 ≤ c) (hb : 0 ≤ b) {k : Nat} (hk : b < 2 ^ k) : Sc a b c k 0 0 := by
  refine ⟨?_, by omega, by omega⟩
  rw [Int.ediv_eq_zero_of_lt hb hk]; simp
/-- One bit: what the sum is ahead of the subtractions. -/
theorem Sc.step {a b c q r : Int} {k : Nat} (h : Sc a b c (k + 1) q r) {t : Int} (ht : t = 2 * r + (if b / (2 ^ k : Int) % 2 = 1 then a else 0)) : 2 * q * c + t = a * (b / (2 ^ k : Int)) := by
  have h1 := h.1
  have h2 := pow_succ_div (b := b) k
  have h3 : b / (2 ^ k : Int) % 2 = 0 ∨ b / (2 ^ k : Int) % 2 = 1 := by omega
  subst ht
  rcases h3 with h3 | h3
  · rw [h3, if_neg (by decide)] 
    rw [h2, h3]
    grind
  · rw [h3, if_pos rfl]
    rw [h2, h3]
    grind
theorem Sc.done {a b c q r : Int} (h : Sc a b c 0 q r) : q = a * b / c := by
  have h1 := h.1
  have h2 := h.2.1
  have h3 := h.2.2
  rw [show (2 ^ 0 : Int) = 1 from rfl, Int.ediv_one] at h1
  symm
  rw [floor_iff (by omega)]
  constructor
  · omega
  · have : (q + 1) * c = q * c + c := by rw [Int.add_mul, Int.one_mul]
    omega

/-! ### The line in lowest terms -/
theorem line_low {a b c d : Nat} (ha : 0 < a) (hb : 0 < b) (hc : 0 < c) (hd : 0 < d) : (a / Nat.gcd a b = c / Nat.gcd c d ∧ b / Nat.gcd a b = d / Nat.gcd c d) ↔ a * d = c * b := by
  have hg : 0 < Nat.gcd a b := Nat.gcd_pos_of_pos_left _ ha
  have hh : 0 < Nat.gcd c d := Nat.gcd_pos_of_pos_left _ hc
  obtain ⟨x, hx⟩ := Nat.gcd_dvd_left a b
  obtain ⟨y, hy⟩ := Nat.gcd_dvd_right a b
  obtain ⟨u, hu⟩ := Nat.gcd_dvd_left c d
  obtain ⟨v, hv⟩ := Nat.gcd_dvd_right c d
  have k1 : Nat.Coprime x y := by
    have h := Nat.coprime_div_gcd_div_gcd hg
    rw [show a / Nat.gcd a b = x from Nat.div_eq_of_eq_mul_right hg hx, show b / Nat.gcd a b = y from Nat.div_eq_of_eq_mul_right hg hy] at h
    exact h
  have k2 : Nat.Coprime u v := by
    have h := Nat.coprime_div_gcd_div_gcd hh
    rw [show c / Nat.gcd c d = u from Nat.div_eq_of_eq_mul_right hh hu, show d / Nat.gcd c d = v from Nat.div_eq_of_eq_mul_right hh hv] at h
    exact h
  rw [show a / Nat.gcd a b = x from Nat.div_eq_of_eq_mul_right hg hx, show b / Nat.gcd a b = y from Nat.div_eq_of_eq_mul_right hg hy, show c / Nat.gcd c d = u from Nat.div_eq_of_eq_mul_right hh hu, show d / Nat.gcd c d = v from Nat.div_eq_of_eq_mul_right hh hv]
  generalize Nat.gcd a b = g at *
  generalize Nat.gcd c d = h at *
  subst hx hy hu hv
  constructor
  · rintro ⟨rfl, rfl⟩
    grind
  · intro he
    have e : x * v = u * y := by
      have h1 : (g * h) * (x * v) = (g * h) * (u * y) := by grind
      exact Nat.eq_of_mul_eq_mul_left (Nat.mul_pos hg hh) h1
    have d1 : x ∣ u := k1.dvd_of_dvd_mul_right ⟨v, e.symm⟩
    have d2 : u ∣ x := k2.dvd_of_dvd_mul_right ⟨y, e⟩
    have exu : x = u := Nat.dvd_antisymm d1 d2
    subst exu
    have hx0 : 0 < x := by
      rcases Nat.eq_zero_or_pos x with h0 | h0
      · subst h0; simp at ha
      · exact h0
    exact ⟨rfl, (Nat.eq_of_mul_eq_mul_left hx0 e).symm⟩
#print axioms line_low
#print axioms Va.thin
#print axioms Sc.done
end Go.Proofs.Ytkbnhmgladkojaa.Align
