/- Thinned marks (pure). -/
import Derived.Test.YtkbnhmgladkojaaAlignA
namespace Go.Proofs.Ytkbnhmgladkojaa.Align
set_option linter.unusedVariables false

theorem Aft.trans {p m n : Mk} (h : Aft p m) (k : Aft m n) : Aft p n := ⟨Int.lt_trans h.1 k.1, Int.lt_trans h.2 k.2⟩
theorem lin_iff {p m n : Mk} : lin p m n = true ↔ (m.2 - p.2) * (n.1 - p.1) = (n.2 - p.2) * (m.1 - p.1) := by unfold lin; exact decide_eq_true_iff
theorem lin_left {p m n : Mk} (hp : Aft p m) (hm : Aft m n) (h : lin p m n = true) (a : Int) : seg p n a = seg p m a := by
  unfold seg
  have h1 := hp.1
  have h2 := hm.1
  rw [scale_div (x := a - p.1) (show 0 < m.1 - p.1 by omega) (show 0 < n.1 - p.1 by omega) (lin_iff.mp h)]
theorem lin_turn {p m n : Mk} (h : lin p m n = true) : (n.2 - m.2) * (n.1 - p.1) = (n.2 - p.2) * (n.1 - m.1) := by
  have := lin_iff.mp h
  grind
theorem lin_right {p m n : Mk} (hp : Aft p m) (hm : Aft m n) (h : lin p m n = true) (a : Int) : seg p n a = seg m n a := by
  unfold seg
  have h1 := hp.1
  have h2 := hm.1
  rw [scale_div (x := a - m.1) (show 0 < n.1 - m.1 by omega) (show 0 < n.1 - p.1 by omega) (lin_turn h)]
  have e : (a - p.1) * (n.2 - p.2) = (a - m.1) * (n.2 - p.2) + (m.2 - p.2) * (n.1 - p.1) := by
    have := lin_iff.mp h
    grind
  rw [e, Int.add_mul_ediv_right _ _ (by omega)]
  omega
theorem thn_gro : ∀ (l : List Mk) (p : Mk), Gro p l → Gro p (thn p l)
  | [], _, _ => trivial
  | [n], _, h => ⟨h.1, trivial⟩
  | m :: n :: r, p, h => by
    rw [thn]
    split
    · exact thn_gro (n :: r) p ⟨h.1.trans h.2.1, h.2.2⟩
    · exact ⟨h.1, thn_gro (n :: r) m h.2⟩
theorem thn_end : ∀ (l : List Mk) (p : Mk), end_ p (thn p l) = end_ p l
  | [], _ => rfl
  | [n], _ => rfl
  | m :: n :: r, p => by
    rw [thn]
    split
    · rw [thn_end (n :: r) p]; rfl
    · show end_ m (thn m (n :: r)) = end_ m (n :: r)
      exact thn_end (n :: r) m
theorem thn_len : ∀ (l : List Mk) (p : Mk), (thn p l).length ≤ l.length
  | [], _ => Nat.le_refl _
  | [n], _ => Nat.le_refl _
  | m :: n :: r, p => by
    rw [thn]
    split
    · have := thn_len (n :: r) p; simp only [List.length_cons] at *; omega
    · have := thn_len (n :: r) m; simp only [List.length_cons] at *; omega
theorem thn_fwd : ∀ (l : List Mk) (p : Mk), Gro p l → ∀ {a : Int}, p.1 ≤ a → fwd p (thn p l) a = fwd p l a
  | [], _, _, _, _ => rfl
  | [n], _, _, _, _ => rfl
  | m :: n :: r, p, h, a, ha => by
    have h1 := h.1.1
    have h2 := h.2.1.1
    rw [thn]
    split
    · rename_i hl
      rw [thn_fwd (n :: r) p ⟨h.1.trans h.2.1, h.2.2⟩ ha]
      simp only [fwd]
      by_cases c1 : a ≤ m.1
      · rw [if_pos c1, if_pos (by omega), lin_left h.1 h.2.1 hl]
      · rw [if_neg c1]
        by_cases c2 : a ≤ n.1
        · rw [if_pos c2, if_pos c2, lin_right h.1 h.2.1 hl]
        · rw [if_neg c2, if_neg c2]
    · rw [fwd, fwd]
      by_cases c1 : a ≤ m.1
      · rw [if_pos c1, if_pos c1]
      · rw [if_neg c1, if_neg c1]
        exact thn_fwd (n :: r) m h.2 (by omega)
/-- The first mark that is kept lies in the direction of the first mark. -/
theorem thn_head : ∀ (r : List Mk) (m n : Mk), Gro m (n :: r) → ∃ q s, thn m (n :: r) = q :: s ∧ Aft m q ∧ (n.2 - m.2) * (q.1 - m.1) = (q.2 - m.2) * (n.1 - m.1)
  | [], m, n, h => ⟨n, [], rfl, h.1, rfl⟩
  | k :: r, m, n, h => by
    rw [thn]
    split
    · rename_i hl
      obtain ⟨q, s, e, hq, hc⟩ := thn_head r m k ⟨h.1.trans h.2.1, h.2.2⟩
      refine ⟨q, s, e, hq, ?_⟩
      have h0 := lin_iff.mp hl
      have h1 := h.1.1
      have h2 := h.2.1.1
      have hz : k.1 - m.1 ≠ 0 := by omega
      refine Int.eq_of_mul_eq_mul_right hz ?_
      grind
    · exact ⟨n, _, rfl, h.1, rfl⟩
theorem lin_same {p m n q : Mk} (hp : Aft p m) (hm : Aft m n) (hq : Aft m q) (hc : (n.2 - m.2) * (q.1 - m.1) = (q.2 - m.2) * (n.1 - m.1)) (h : lin p m q = true) : lin p m n = true := by
  rw [lin_iff] at h ⊢
  have h1 := hm.1
  have h2 := hq.1
  have hz : q.1 - m.1 ≠ 0 := by omega
  have e : (m.2 - p.2) * (q.1 - m.1) = (q.2 - m.2) * (m.1 - p.1) := by grind
  have e2 : (m.2 - p.2) * (n.1 - m.1) = (n.2 - m.2) * (m.1 - p.1) := by
    refine Int.eq_of_mul_eq_mul_right hz ?_
    grind
  grind
/-- Thinned marks are not thinned further. -/
theorem thn_thn : ∀ (l : List Mk) (p : Mk), Gro p l → thn p (thn p l) = thn p l
  | [], _, _ => rfl
  | [n], _, _ => rfl
  | m :: n :: r, p, h => by
    rw [thn]
    split
    · exact thn_thn (n :: r) p ⟨h.1.trans h.2.1, h.2.2⟩
    · rename_i hl
      obtain ⟨q, s, e, hq, hc⟩ := thn_head r m n h.2
      have ih := thn_thn (n :: r) m h.2
      rw [e] at ih ⊢
      have hn : ¬ lin p m q = true := fun h2 => hl (lin_same h.1 h.2.1 hq hc h2)
      rw [thn, if_neg hn, ih]
#print axioms thn_thn
#print axioms thn_fwd
end Go.Proofs.Ytkbnhmgladkojaa.Align
