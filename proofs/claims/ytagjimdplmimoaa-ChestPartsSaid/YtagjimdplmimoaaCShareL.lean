/- Fair of the program and of the reference. -/
import Derived.Test.YtagjimdplmimoaaPk8
namespace Go.Proofs.Ytagjimdplmimoaa.Share
open Go.ChangeShapes Go.WideShapes Go.RowKit Go.Lib Go.Proofs.Ytagjimdplmimoaa.Mem
open Go.Proofs.Ytagjimdplmimoaa.Num (num_sum num_muldiv sumV sumE sumV_all sumE_all sumE_long sumV_long tot tot_snoc allIn inB inB_yes okV okE okV_yes okE_yes okV_no okE_no Holds mdV mdE mdV_in mdR mdM sg negB awayB InR inr_mk)
set_option linter.unusedVariables false
set_option maxRecDepth 100000

/-! ### slices.Equal -/
theorem cl_block {w : World} {A : Option Addr} {L : List Int} (h : Cl eI w A L) (h0 : 0 < L.length) : ∃ b off, A = some ⟨b, off, none⟩ ∧ ∀ j, j < L.length → w.cell? ⟨b, off + j, none⟩ = some (.int .i64 (L.getD j 0)) := by
  obtain ⟨z, hz⟩ := get_lt h0
  obtain ⟨b, off, rfl, _, _⟩ := h 0 z hz
  refine ⟨b, off, rfl, fun j hj => ?_⟩
  obtain ⟨y, hy⟩ := get_lt hj
  obtain ⟨b', off', e, _, hc⟩ := h j y hy
  cases e
  rw [hc, List.getD_eq_getElem?_getD, hy]; rfl
/-! ### What Fair says -/
def fairB (ps ws : List Int) : Bool := decide (sumE ps = 0) && (decide (errS (sumV ps) ws = 0) && decide (ps = splL (sumV ps) ws))
theorem splL_len {t : Int} {ws : List Int} (h : errS t ws = 0) : (splL t ws).length = ws.length := by unfold splL; rw [if_pos h, partsL_len]
theorem splL_pos {t : Int} {ws : List Int} : ∀ z ∈ splL t ws, 0 ≤ z := by
  intro z hz
  unfold splL at hz
  split at hz
  · unfold partsL at hz
    obtain ⟨i, _, rfl⟩ := List.mem_map.mp hz
    omega
  · cases hz
theorem sumK_lst {f : Nat → Nat} {n : Nat} : ∀ k, k ≤ n → sumK (lst (fun i => (f i : Int)) n) k = (sm f k : Int)
  | 0, _ => rfl
  | k + 1, h => by rw [sumK_succ (lst_at _ (by omega)), sumK_lst k (by omega), sm]; simp
theorem splL_sum {t : Int} {ws : List Int} (h : errS t ws = 0) : sumK (splL t ws) (splL t ws).length = t := by
  have e : splL t ws = lst (fun i => (part t.toNat (wf ws) ws.length i : Int)) ws.length := by unfold splL; rw [if_pos h]; rfl
  rw [e, lst_len, sumK_lst _ (Nat.le_refl _)]
  exact (Ok.of h).parts
theorem sumK_mono {zs : List Int} (h : ∀ z ∈ zs, 0 ≤ z) : ∀ (d k : Nat), k + d = zs.length → sumK zs k ≤ sumK zs zs.length
  | 0, k, hk => by rw [show k = zs.length by omega]; exact Int.le_refl _
  | d + 1, k, hk => by
    obtain ⟨z, hz⟩ := get_lt (show k < zs.length by omega)
    have h1 := sumK_mono h d (k + 1) (by omega)
    rw [sumK_succ hz] at h1
    have := h z (List.mem_of_getElem? hz)
    omega
structure FairOk (ps ws : List Int) : Prop where
  len : ps.length = ws.length
  pos : ∀ z ∈ ps, 0 ≤ z
  sum : sumK ps ps.length ≤ mx
theorem fairB_ok {ps ws : List Int} (h : fairB ps ws = true) : FairOk ps ws := by
  simp only [fairB, Bool.and_eq_true, decide_eq_true_eq] at h
  obtain ⟨h1, h2, h3⟩ := h
  have e1 := splL_len h2
  have e2 := splL_sum h2
  rw [← h3] at e1 e2
  exact ⟨e1, fun z hz => splL_pos z (h3 ▸ hz), by rw [e2]; exact (Ok.of h2).t1⟩
theorem fairB_no {ps ws : List Int} (h : ¬ FairOk ps ws) : fairB ps ws = false := by
  cases h1 : fairB ps ws with
  | false => rfl
  | true => exact absurd (fairB_ok h1) h
/-- Where the parts are in range: what the reference asks. -/
theorem fairB_in {ps ws : List Int} (h : FairOk ps ws) : fairB ps ws = (decide (errS (sumK ps ps.length) ws = 0) && decide (splL (sumK ps ps.length) ws = ps)) := by
  have hmx : mx = 1125899906842624 := rfl
  have ha : ∀ z ∈ ps, 0 ≤ z ∧ z ≤ mx := fun z hz => by
    refine ⟨h.pos z hz, ?_⟩
    obtain ⟨k, hk⟩ := List.mem_iff_getElem?.mp hz
    have h1 := sumK_mono h.pos (ps.length - (k + 1)) (k + 1) (by have := lt_of_get hk; omega)
    rw [sumK_succ hk] at h1
    have h2 : 0 ≤ sumK ps k := by
      have h3 := sm_sumK (ws := ps) (fun z hz => h.pos z hz) (k := k) (by have := lt_of_get hk; omega)
      omega
    have := h.sum
    omega
  have hs0 : 0 ≤ sumK ps ps.length := by
    have h3 := sm_sumK (ws := ps) (fun z hz => h.pos z hz) (Nat.le_refl ps.length)
    omega
  by_cases hl : 65536 < ps.length
  · have he : ¬ errS (sumK ps ps.length) ws = 0 := by
      intro h4
      have := (Ok.of h4).n1
      have := h.len
      omega
    unfold fairB
    rw [sumE_long hl, decide_eq_false he]; simp
  · have hall := allIn_of ha
    have hsm := h.sum
    have hV : sumV ps = sumK ps ps.length := by rw [sumV_all (by omega) hall, tot_all]; exact okV_yes (by omega) (by omega)
    have hE : sumE ps = 0 := by rw [sumE_all (by omega) hall, tot_all]; exact okE_yes (by omega) (by omega)
    unfold fairB
    rw [hV, hE]
    simp only [decide_true, Bool.true_and]
    congr 1
    rw [Bool.eq_iff_iff]; simp
    exact eq_comm

end Go.Proofs.Ytagjimdplmimoaa.Share
