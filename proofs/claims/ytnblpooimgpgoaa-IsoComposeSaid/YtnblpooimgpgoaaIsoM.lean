/- add, by the images; visit, whatever the function. -/
import Derived.Test.YtnblpooimgpgoaaIsoL
import Derived.Shelf.Abstract
namespace Go.Proofs.Ytnblpooimgpgoaa.Iso
open Go.ChangeShapes Go.WideShapes Go.RowKit Go.Lib Go.Proofs.Ytnblpooimgpgoaa.Rw
set_option linter.unusedVariables false
set_option maxRecDepth 100000

theorem nf_range {L : List Int} (hL : ∀ x ∈ L, 0 ≤ x ∧ x < ml) (hl : (L.length : Int) ≤ 1125899906842624) {c : Rn} (hc : c ∈ nfL L) : 0 ≤ c.1 ∧ c.1 < ml ∧ 1 ≤ c.2.1 ∧ c.2.1 ≤ 1125899906842624 := by
  have hp := nfL_pos L c hc
  have h0 : c.1 ∈ L := by
    have : im c 0 ∈ ex (nfL L) := mem_ex.mpr ⟨c, hc, mem_exR.mpr ⟨0, by omega, rfl⟩⟩
    rw [(nfL_ok L).2, im_zero] at this
    exact this
  have h1 : c.2.1 ≤ lenM (nfL L) := by
    have key : ∀ (m : List Rn), (∀ r ∈ m, 1 ≤ r.2.1) → c ∈ m → c.2.1 ≤ lenM m := by
      intro m
      induction m with
      | nil => intro _ h; simp at h
      | cons r m ih =>
        intro hpos h
        have h2 := lenM_nonneg (m := m) fun s hs => hpos s (by simp [hs])
        have h3 := hpos r (by simp)
        simp only [lenM]
        rcases List.mem_cons.mp h with h | h
        · subst h; omega
        · have := ih (fun s hs => hpos s (by simp [hs])) h; omega
    exact key _ (nfL_pos L) hc
  rw [← ex_len (nfL_pos L), (nfL_ok L).2] at h1
  have := hL _ h0
  exact ⟨this.1, this.2, hp, by omega⟩

set_option maxHeartbeats 800000 in
theorem iso_add {w : World} {g : Nat} {S : Nat → Prop} {L : List Int} (hq : Nm w g S (nfL L)) (hm : (nfL L).length ≤ 900000) (hL : ∀ x ∈ L, 0 ≤ x ∧ x < ml) (hl : (L.length : Int) ≤ 1125899906842624) (r : Rn) (hr : gd r = true) :
    Calls Try.prog 60 #[.pointer (some ⟨g, 0, none⟩), .agg #[.int .i64 r.1, .int .i64 r.2.1, .bool r.2.2]] w (AddP w g S (nfL (L ++ exR r))) := by
  have hp := gd_pos hr
  obtain ⟨g1, g2, g3, g4, -, -⟩ := gd_iff.mp hr
  have hadd := nfL_add (nfL_ok L).1 (nfL_ok L).2 hp
  rw [← hadd]
  rcases snoc_cases (nfL L) with h0 | ⟨p, c, h0⟩
  · rw [h0, addR_nil]
    rw [h0] at hq
    have z1 : (r.2.1 == 0) = false := beq_false_of_ne (by omega)
    obtain ⟨a, n, b⟩ := r
    cases b with
    | true =>
      refine add_nil_t (Lib.hid hq) a n z1 (decide (1 < n)) rfl (Lib.hid ?_)
      unfold nrmR; simp
    | false =>
      refine add_nil_f (Lib.hid hq) a n z1 (Lib.hid ?_)
      unfold nrmR; simp
  · have hc := nf_range hL hl (c := c) (by rw [h0]; simp)
    rw [h0] at hq hm
    have hT := grT_le c r hp
    rw [h0, add_rest p c r hc.2.2.1 hp]
    have hg := fun W => iso_grown c.1 c.2.1 c.2.2 r.1 r.2.1 r.2.2 W (by unfold big; unfold ml at *; omega) (by unfold big; unfold ml at *; omega) (by unfold big; unfold ml at *; omega) (by unfold big; unfold ml at *; omega)
    have hk := fun W => iso_cut r.1 r.2.1 r.2.2 (grT c.1 c.2.1 c.2.2 r.1 r.2.1 r.2.2) r.2.1 W (by unfold big; unfold ml at *; omega) (by unfold big; unfold ml at *; omega) (by unfold big; unfold ml at *; omega)
    refine add_cons (Lib.hid hq) (by rw [List.length_append] at hm; omega) r.1 r.2.1 r.2.2 (grown c r).2.1 _ (restR c r).1 (restR c r).2.1 (grown c r).2.2 _ (Lib.hid rfl) (Lib.hid hg) (Lib.hid hk)

/-! ### The runs that visit hands on -/
def pc (r : Rn) (f t : Int) : List Rn := if clp f r.2.1 < clp t r.2.1 then [(imI r.1 r.2.2 (clp f r.2.1), clp t r.2.1 - clp f r.2.1, r.2.2)] else []
def pcs : List Rn → Int → Int → List Rn
  | [], _, _ => []
  | r :: m, f, t => pc r f t ++ pcs m (f - r.2.1) (t - r.2.1)
theorem pcs_snoc (m : List Rn) (r : Rn) : ∀ (f t : Int), pcs (m ++ [r]) f t = pcs m f t ++ pc r (f - lenM m) (t - lenM m) := by
  induction m with
  | nil => intro f t; simp [pcs, lenM]
  | cons s m ih =>
    intro f t
    simp only [List.cons_append, pcs, lenM, List.append_assoc]
    rw [ih]
    rw [show f - s.2.1 - lenM m = f - (s.2.1 + lenM m) by omega, show t - s.2.1 - lenM m = t - (s.2.1 + lenM m) by omega]
theorem clp_le (x n : Int) (h : 0 ≤ n) : 0 ≤ clp x n ∧ clp x n ≤ n := by unfold clp; omega
theorem pc_gd {r : Rn} {f t : Int} (h : gd r = true) : ∀ s ∈ pc r f t, gd s = true := by
  intro s hs
  unfold pc at hs
  split at hs
  · simp at hs
    subst hs
    have h1 := clp_le f r.2.1 (by have := gd_pos h; omega)
    have h2 := clp_le t r.2.1 (by have := gd_pos h; omega)
    rw [imI_im r h1.1]
    exact gd_cut h (by omega) (by omega)
  · simp at hs
theorem pcs_gd {m : List Rn} (h : ∀ r ∈ m, gd r = true) : ∀ (f t : Int), ∀ s ∈ pcs m f t, gd s = true := by
  induction m with
  | nil => intro f t s hs; simp [pcs] at hs
  | cons r m ih =>
    intro f t s hs
    simp only [pcs, List.mem_append] at hs
    rcases hs with hs | hs
    · exact pc_gd (h r (by simp)) s hs
    · exact ih (fun s hs => h s (by simp [hs])) _ _ s hs
theorem pc_len (r : Rn) (f t : Int) : (pc r f t).length ≤ 1 := by unfold pc; split <;> simp
theorem pcs_len (m : List Rn) : ∀ (f t : Int), (pcs m f t).length ≤ m.length := by
  induction m with
  | nil => intro f t; simp [pcs]
  | cons r m ih => intro f t; have := ih (f - r.2.1) (t - r.2.1); have := pc_len r f t; simp only [pcs, List.length_append, List.length_cons]; omega
theorem pc_ex {r : Rn} (h : 1 ≤ r.2.1) (f t : Int) : ex (pc r f t) = win (exR r) f.toNat t.toNat := by
  have hl : (exR r).length = r.2.1.toNat := exR_len r
  have hw : win (exR r) f.toNat t.toNat = win (exR r) (clp f r.2.1).toNat (clp t r.2.1).toNat := by
    unfold win
    have e1 : (exR r).take t.toNat = (exR r).take (clp t r.2.1).toNat := by
      rcases Int.le_total t r.2.1 with h1 | h1
      · congr 1; unfold clp; omega
      · rw [List.take_of_length_le (by omega), List.take_of_length_le (by unfold clp; omega)]
    rw [e1]
    rcases Int.le_total f r.2.1 with h1 | h1
    · congr 1; unfold clp; omega
    · rw [List.drop_of_length_le (by rw [List.length_take]; omega), List.drop_of_length_le (by rw [List.length_take]; unfold clp; omega)]
  rw [hw]
  have h1 := clp_le f r.2.1 (by omega)
  have h2 := clp_le t r.2.1 (by omega)
  unfold pc
  by_cases hlt : clp f r.2.1 < clp t r.2.1
  · rw [if_pos hlt, ex_one, win_cut h (by omega) (by omega), imI_im r h1.1]
    unfold cutR
    rw [show ((clp t r.2.1).toNat : Int) - ((clp f r.2.1).toNat : Int) = clp t r.2.1 - clp f r.2.1 by omega]
  · rw [if_neg hlt, win_none (by omega)]; rfl
theorem pcs_ex {m : List Rn} (h : ∀ r ∈ m, 1 ≤ r.2.1) : ∀ (f t : Int), ex (pcs m f t) = win (ex m) f.toNat t.toNat := by
  induction m with
  | nil => intro f t; simp [pcs, ex, win]
  | cons r m ih =>
    intro f t
    have hr := h r (by simp)
    simp only [pcs]
    rw [ex_append, ex_cons, win_append, pc_ex hr, ih fun s hs => h s (by simp [hs]), exR_len]
    rw [show (f - r.2.1).toNat = f.toNat - r.2.1.toNat by omega, show (t - r.2.1).toNat = t.toNat - r.2.1.toNat by omega]
#print axioms iso_add
#print axioms pcs_ex
end Go.Proofs.Ytnblpooimgpgoaa.Iso
