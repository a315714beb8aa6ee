/- A normal form in memory; what add does, purely. -/
import Derived.Test.YtnblpooimgpgoaaIsoJ
import Derived.Deep.LoopGhost
namespace Go.Proofs.Ytnblpooimgpgoaa.Iso
open Go.ChangeShapes Go.WideShapes Go.RowKit Go.Lib Go.Proofs.Ytnblpooimgpgoaa.Rw
set_option linter.unusedVariables false
set_option maxRecDepth 100000

abbrev TN : TypeId := 68
abbrev TR : TypeId := 48
/-- The normal form M lies at block g; its blocks are in S. -/
structure Nm (w : World) (g : Nat) (S : Nat → Prop) (M : List Rn) : Prop where
  sg : S g
  lt : ∀ k, S k → k < w.heap.size
  ex : ∃ v, w.heap[g]? = some (.cells #[v] TN (0, 0)) ∧ Row cR 3 TR 0 w v M ∧ (∀ h, v.ownBlock = some h → S h ∧ h ≠ g)
section
variable {w w' : World} {g : Nat} {S S' : Nat → Prop} {M : List Rn}
theorem Nm.keep (h : Nm w g S M) (hs : w.heap.size ≤ w'.heap.size) (hk : ∀ k, S k → w'.heap[k]? = w.heap[k]?) : Nm w' g S M := by
  obtain ⟨v, h1, h2, h7⟩ := h.ex
  exact ⟨h.sg, fun k hk => Nat.lt_of_lt_of_le (h.lt k hk) hs, v, (hk g h.sg).trans h1, h2.keep fun k e => hk k (h7 k e).1, h7⟩
theorem Nm.off (h : Nm w g S M) (ho : Off S' w w') (hd : ∀ k, S k → ¬ S' k) : Nm w' g S M :=
  h.keep ho.size fun k hk => ho.block k (h.lt k hk) (hd k hk)
theorem Nm.on (h : Nm w g S M) (hb : Below w.heap.size w w') : Nm w' g S M :=
  h.keep hb.size fun k hk => hb.block k (h.lt k hk)
theorem Nm.new (w : World) : Nm (w.alloc (.cells #[.slice none 0 0] TN)) w.heap.size (fun k => k = w.heap.size) [] :=
  ⟨rfl, fun k hk => by subst hk; simp, .slice none 0 0, heap_alloc_new _ _, Row.nil _ _ _ _ _, fun h e => by cases e⟩
theorem Nm.reads (h : Nm w g S M) : ∃ A c, w.cell? ⟨g, 0, none⟩ = some (.slice A M.length c) ∧ Row cR 3 TR 0 w (.slice A M.length c) M ∧ w.heap[g]? = some (.cells #[.slice A M.length c] TN (0, 0)) ∧ (∀ h, (Value.slice A M.length c).ownBlock = some h → S h ∧ h ≠ g) ∧ (M = [] ∨ ∃ h, A = some ⟨h, 0, none⟩) := by
  obtain ⟨v, h1, h2, h3⟩ := h.ex
  obtain ⟨A, c, rfl, -, -, hr, -, hA⟩ := h2.one cR_len
  refine ⟨A, c, by rw [cell_of_row _ _ _ _ _ _ h1]; rfl, h2, h1, h3, ?_⟩
  rcases hA with rfl | ⟨h, rfl, _⟩
  · exact Or.inl hr.none_
  · exact Or.inr ⟨h, rfl⟩
theorem info_r : (Try.prog.info? TR).map (fun i => (i.zero, i.size, i.bytes)) = some (some (.agg #[.int .i64 0, .int .i64 0, .bool false]), 3, 24) := by kernel_rfl
theorem kdR : Kd cR 3 22 TR := by
  obtain ⟨i, h1, h2, h3, h4⟩ := info_parts info_r
  exact ⟨Try.underlying22, ⟨i, _, _, h1, h2, h3, rfl, rfl, by rw [h4]; decide⟩, cR_len, by decide, fun z u hu => by
    simp at hu
    rcases hu with h | h | h <;> subst h <;> rfl⟩
theorem flat_put (L : List Rn) (k : Nat) (r : Rn) (hk : k < L.length) : (L.set k r).flatMap cR = (((L.flatMap cR).set (k * 3) (.int .i64 r.1)).set (k * 3 + 1) (.int .i64 r.2.1)).set (k * 3 + 2) (.bool r.2.2) := by
  induction L generalizing k with
  | nil => simp at hk
  | cons s L ih =>
    cases k with
    | zero => rfl
    | succ k =>
      have := ih k (by simpa using hk)
      rw [List.set_cons_succ, List.flatMap_cons, this, List.flatMap_cons]
      rw [show (k + 1) * 3 + 2 = (k * 3 + 2) + 1 + 1 + 1 by omega, show (k + 1) * 3 + 1 = (k * 3 + 1) + 1 + 1 + 1 by omega, show (k + 1) * 3 = (k * 3) + 1 + 1 + 1 by omega]
      rfl
/-- A run that is stored in a row. -/
theorem Row.put {B h n c : Nat} {L : List Rn} (hr : Row cR 3 TR B w (.slice (some ⟨h, 0, none⟩) n c) L) (hn : n = L.length) (k : Nat) (r : Rn) (hk : k < L.length) :
    Row cR 3 TR B (((w.setCell ⟨h, k * 3, none⟩ (.int .i64 r.1)).setCell ⟨h, k * 3 + 1, none⟩ (.int .i64 r.2.1)).setCell ⟨h, k * 3 + 2, none⟩ (.bool r.2.2)) (.slice (some ⟨h, 0, none⟩) n c) (L.set k r) := by
  subst hn
  have h1 := own_set (w := w) (t := TR) (B := B) (s := 3) (m := L.length) (xs := L.flatMap cR) hr (k * 3) (.int .i64 r.1)
  have h2 := own_set h1 (k * 3 + 1) (.int .i64 r.2.1)
  have h3 := own_set h2 (k * 3 + 2) (.bool r.2.2)
  unfold Row
  rw [List.length_set, flat_put L k r hk]
  exact h3
end

/-! ### The last run and a further one -/
/-- What add leaves. -/
def grown (c r : Rn) : Rn := (c.1, c.2.1 + grT c.1 c.2.1 c.2.2 r.1 r.2.1 r.2.2, grV c.1 c.2.1 c.2.2 r.1 r.2.1 r.2.2)
def restR (c r : Rn) : Rn := (imI r.1 r.2.2 (grT c.1 c.2.1 c.2.2 r.1 r.2.1 r.2.2), r.2.1 - grT c.1 c.2.1 c.2.2 r.1 r.2.1 r.2.2, r.2.2)
theorem grT_le (c r : Rn) (hr : 1 ≤ r.2.1) : 0 ≤ grT c.1 c.2.1 c.2.2 r.1 r.2.1 r.2.2 ∧ grT c.1 c.2.1 c.2.2 r.1 r.2.1 r.2.2 ≤ r.2.1 := by
  unfold grT
  split
  · split <;> omega
  · omega
theorem can_gr (c : Rn) (x : Int) (hc : 1 ≤ c.2.1) : can c x = decide (imI c.1 (grB c.1 c.2.1 c.2.2 x) c.2.1 = x) := by
  rw [Bool.eq_iff_iff, can_iff, decide_eq_true_iff, las_is hc]
  unfold imI grB
  obtain ⟨a, n, b⟩ := c
  simp only at hc ⊢
  by_cases hn : n = 1
  · subst hn
    rw [if_pos rfl]
    by_cases hx : x < a
    · rw [decide_eq_true hx]; cases b <;> simp <;> omega
    · rw [decide_eq_false hx]; cases b <;> simp <;> omega
  · rw [if_neg hn]
    cases b <;> simp <;> omega
theorem gr_dir (c : Rn) (x : Int) (hc : 1 ≤ c.2.1) (h : imI c.1 (grB c.1 c.2.1 c.2.2 x) c.2.1 = x) : decide (x = las c - 1) = grB c.1 c.2.1 c.2.2 x := by
  rw [las_is hc]
  unfold imI grB at *
  obtain ⟨a, n, b⟩ := c
  simp only at hc h ⊢
  by_cases hn : n = 1
  · subst hn
    rw [if_pos rfl] at h ⊢
    by_cases hx : x < a
    · rw [decide_eq_true hx] at h ⊢
      cases b <;> simp at h ⊢ <;> omega
    · rw [decide_eq_false hx] at h ⊢
      cases b <;> simp at h ⊢ <;> omega
  · rw [if_neg hn] at h ⊢
    cases b <;> simp at h ⊢ <;> omega
theorem add_rest (p : List Rn) (c r : Rn) (hc : 1 ≤ c.2.1) (hr : 1 ≤ r.2.1) : addR (p ++ [c]) r = if (restR c r).2.1 = 0 then p ++ [grown c r] else p ++ [grown c r] ++ [nrmR (restR c r)] := by
  rw [addR_snoc]
  unfold addC
  by_cases hcan : can c r.1 = true
  · have h1 := hcan
    rw [can_gr c _ hc, decide_eq_true_iff] at h1
    have h2 := gr_dir c _ hc h1
    rw [if_pos hcan, h2]
    unfold grown restR grT grV
    rw [if_pos h1, if_pos h1]
    by_cases hd : r.2.2 = grB c.1 c.2.1 c.2.2 r.1
    · rw [if_pos (Or.inr hd), if_pos hd, if_pos (by simp)]
    · by_cases h3 : r.2.1 = 1
      · rw [if_pos (Or.inl h3), if_neg hd, if_pos (by simp [h3]), h3]
      · rw [if_neg (by simp [h3, hd]), if_neg hd, if_neg (by simp; omega)]
        rw [imI_im r (by omega)]
        simp
  · have h1 := hcan
    rw [can_gr c _ hc, decide_eq_true_iff] at h1
    rw [if_neg hcan]
    unfold grown restR grT grV
    rw [if_neg h1, if_neg h1, if_neg (by simp; omega)]
    have e1 : imI r.1 r.2.2 0 = r.1 := by unfold imI; split <;> omega
    rw [e1]
    simp
theorem rest_gd {c r : Rn} (h : gd r = true) (h0 : ¬ (restR c r).2.1 = 0) : gd (restR c r) = true := by
  have h1 := grT_le c r (gd_pos h)
  unfold restR at *
  simp only at h0
  rw [imI_im r h1.1]
  exact gd_cut h (by omega) (by omega)
#print axioms Row.put
#print axioms add_rest
end Go.Proofs.Ytnblpooimgpgoaa.Iso
