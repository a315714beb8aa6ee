/- Marks, and what counter B shows between them (pure). -/
import Derived.Test.YtkbnhmgladkojaaRows
namespace Go.Proofs.Ytkbnhmgladkojaa.Align
set_option linter.unusedVariables false

/-- A mark: A, B. -/
abbrev Mk := Int × Int
/-- What B shows at a, on the line from m to n, rounded down. -/
def seg (m n : Mk) (a : Int) : Int := m.2 + (a - m.1) * (n.2 - m.2) / (n.1 - m.1)
/-- n lies after m on both counters. -/
def Aft (m n : Mk) : Prop := m.1 < n.1 ∧ m.2 < n.2
/-- What B shows, m being the mark before the rest. -/
def fwd (m : Mk) : List Mk → Int → Int
  | [], _ => m.2
  | n :: r, a => if a ≤ n.1 then seg m n a else fwd n r a
/-- The marks grow. -/
def Gro (m : Mk) : List Mk → Prop
  | [] => True
  | n :: r => Aft m n ∧ Gro n r
/-- The last mark. -/
def end_ (m : Mk) : List Mk → Mk
  | [] => m
  | n :: r => end_ n r

/-! ### One line -/
theorem floor_iff {x y q : Int} (hy : 0 < y) : x / y = q ↔ q * y ≤ x ∧ x < (q + 1) * y := by
  constructor
  · rintro rfl
    have h1 := Int.ediv_mul_le x (Int.ne_of_gt hy)
    have h2 := Int.lt_ediv_add_one_mul_self x hy
    exact ⟨h1, h2⟩
  · rintro ⟨h1, h2⟩
    have h3 : q ≤ x / y := (Int.le_ediv_iff_mul_le hy).mpr h1
    have h4 : x / y < q + 1 := (Int.ediv_lt_iff_lt_mul hy).mpr h2
    omega
theorem seg_lo (m n : Mk) : seg m n m.1 = m.2 := by unfold seg; simp
theorem seg_hi {m n : Mk} (h : Aft m n) : seg m n n.1 = n.2 := by
  unfold seg
  have h1 := h.1
  rw [Int.mul_comm, Int.mul_ediv_cancel _ (by omega)]
  omega
theorem seg_mono {m n : Mk} (h : Aft m n) {a b : Int} (hab : a ≤ b) : seg m n a ≤ seg m n b := by
  unfold seg
  have h1 := h.1
  have h2 := h.2
  have h3 : (a - m.1) * (n.2 - m.2) ≤ (b - m.1) * (n.2 - m.2) := Int.mul_le_mul_of_nonneg_right (by omega) (by omega)
  have h4 := Int.ediv_le_ediv (show 0 < n.1 - m.1 by omega) h3
  omega
theorem seg_in {m n : Mk} (h : Aft m n) {a : Int} (h0 : m.1 ≤ a) (h1 : a ≤ n.1) : m.2 ≤ seg m n a ∧ seg m n a ≤ n.2 := by
  have e0 := seg_mono h h0
  have e1 := seg_mono h h1
  rw [seg_lo] at e0
  rw [seg_hi h] at e1
  exact ⟨e0, e1⟩

/-! ### All marks -/
theorem fwd_lo {m : Mk} : ∀ {r : List Mk}, Gro m r → fwd m r m.1 = m.2
  | [], _ => rfl
  | n :: r, h => by
    have := h.1.1
    rw [fwd, if_pos (by omega), seg_lo]
theorem gro_end {m : Mk} : ∀ {r : List Mk}, Gro m r → m.1 ≤ (end_ m r).1 ∧ m.2 ≤ (end_ m r).2
  | [], _ => ⟨Int.le_refl _, Int.le_refl _⟩
  | n :: r, h => by
    have h1 := h.1
    have h2 := gro_end h.2
    exact ⟨by unfold end_; have := h1.1; omega, by unfold end_; have := h1.2; omega⟩
theorem fwd_hi {m : Mk} : ∀ {r : List Mk}, Gro m r → fwd m r (end_ m r).1 = (end_ m r).2
  | [], _ => rfl
  | n :: r, h => by
    have h2 := gro_end h.2
    unfold end_
    rw [fwd]
    by_cases hc : (end_ n r).1 ≤ n.1
    · rw [if_pos hc]
      have e : (end_ n r).1 = n.1 := by omega
      have hf := fwd_hi h.2
      rw [e, fwd_lo h.2] at hf
      rw [e, seg_hi h.1, hf]
    · rw [if_neg hc]; exact fwd_hi h.2
theorem fwd_mono {m : Mk} : ∀ {r : List Mk}, Gro m r → ∀ {a b : Int}, m.1 ≤ a → a ≤ b → fwd m r a ≤ fwd m r b ∧ m.2 ≤ fwd m r a
  | [], _, _, _, _, _ => ⟨Int.le_refl _, Int.le_refl _⟩
  | n :: r, h, a, b, h0, hab => by
    have h1 := h.1.1
    have h2 := h.1.2
    rw [fwd, fwd]
    by_cases ha : a ≤ n.1
    · rw [if_pos ha]
      have hs := seg_in h.1 h0 ha
      refine ⟨?_, hs.1⟩
      by_cases hb : b ≤ n.1
      · rw [if_pos hb]; exact seg_mono h.1 hab
      · rw [if_neg hb]
        have := (fwd_mono h.2 (a := b) (b := b) (by omega) (Int.le_refl _)).2
        omega
    · rw [if_neg ha, if_neg (by omega)]
      have := fwd_mono h.2 (a := a) (b := b) (by omega) hab
      exact ⟨this.1, by omega⟩
/-- Whichever neighbours are taken. -/
theorem fwd_at : ∀ {r : List Mk} {m : Mk}, Gro m r → ∀ {k : Nat} {p n : Mk}, (m :: r)[k]? = some p → r[k]? = some n → ∀ {a : Int}, p.1 ≤ a → a ≤ n.1 → fwd m r a = seg p n a
  | [], m, _, k, p, n, _, hn, _, _, _ => by simp at hn
  | q :: r, m, h, 0, p, n, hp, hn, a, h0, h1 => by
    simp at hp hn
    subst hp hn
    rw [fwd, if_pos h1]
  | q :: r, m, h, k + 1, p, n, hp, hn, a, h0, h1 => by
    simp only [List.getElem?_cons_succ] at hp hn
    have ih := fwd_at h.2 (k := k) hp hn h0 h1
    rw [fwd]
    by_cases ha : a ≤ q.1
    · rw [if_pos ha]
      have hq : q.1 ≤ p.1 := by
        have : ∀ {r : List Mk} {q : Mk}, Gro q r → ∀ {k : Nat} {p : Mk}, (q :: r)[k]? = some p → q.1 ≤ p.1 := by
          intro r
          induction r with
          | nil => intro q _ k p hk; cases k with
            | zero => simp at hk; subst hk; exact Int.le_refl _
            | succ k => simp at hk
          | cons s r ih2 =>
            intro q hg k p hk
            cases k with
            | zero => simp at hk; subst hk; exact Int.le_refl _
            | succ k =>
              rw [List.getElem?_cons_succ] at hk
              have := ih2 hg.2 hk
              have := hg.1.1
              omega
        exact this h.2 hp
      have e : a = q.1 := by omega
      rw [← ih, e, seg_hi h.1, fwd_lo h.2]
    · rw [if_neg ha]; exact ih

/-! ### Back -/
/-- The least place from m on at which B shows at least b. -/
def IsBack (m : Mk) (r : List Mk) (b x : Int) : Prop := m.1 ≤ x ∧ x ≤ (end_ m r).1 ∧ b ≤ fwd m r x ∧ ∀ y, m.1 ≤ y → y < x → fwd m r y < b
theorem back_one {m : Mk} {r : List Mk} {b x y : Int} (h : IsBack m r b x) (k : IsBack m r b y) : x = y := by
  rcases Int.lt_trichotomy x y with hc | hc | hc
  · have := k.2.2.2 x h.1 hc; have := h.2.2.1; omega
  · exact hc
  · have := h.2.2.2 y k.1 hc; have := k.2.2.1; omega

/-! ### Thin -/
/-- m lies on the line from p to n. -/
def lin (p m n : Mk) : Bool := decide ((m.2 - p.2) * (n.1 - p.1) = (n.2 - p.2) * (m.1 - p.1))
/-- What is kept behind p. -/
def thn (p : Mk) : List Mk → List Mk
  | [] => []
  | [n] => [n]
  | m :: n :: r => if lin p m n then thn p (n :: r) else m :: thn m (n :: r)
theorem scale_div {x y z u v : Int} (hz : 0 < z) (hv : 0 < v) (h : y * v = u * z) : x * y / z = x * u / v := by
  have e1 : x * y / z = (x * y * v) / (z * v) := (Int.mul_ediv_mul_of_pos_left _ _ hv).symm
  have e2 : x * u / v = (x * u * z) / (v * z) := (Int.mul_ediv_mul_of_pos_left _ _ hz).symm
  rw [e1, e2, Int.mul_comm v z, Int.mul_assoc, h, Int.mul_assoc]
#print axioms fwd_at
#print axioms scale_div
end Go.Proofs.Ytkbnhmgladkojaa.Align
