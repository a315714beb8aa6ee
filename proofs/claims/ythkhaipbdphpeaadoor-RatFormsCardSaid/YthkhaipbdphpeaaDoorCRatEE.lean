/- Different numbers have different texts. The contract of zero. -/
import Derived.Test.YthkhaipbdphpeaaDoorCRatCC
namespace Go.Proofs.YthkhaipbdphpeaaDoor
open Go.ChangeShapes Go.WideShapes Go.RowKit
set_option linter.unusedVariables false
set_option maxRecDepth 100000

theorem take_digits {D t : List UInt8} (h : D.all isD = true) (ht : t.headD 48 ≠ 48 ∨ t = []) (h2 : ∀ c l, t = c :: l → isD c = false) : (D ++ t).takeWhile isD = D := by
  induction D with
  | nil =>
    cases t with
    | nil => rfl
    | cons c l => rw [List.nil_append, List.takeWhile_cons, h2 c l rfl]; rfl
  | cons c D ih =>
    rw [List.all_cons, Bool.and_eq_true] at h
    rw [List.cons_append, List.takeWhile_cons, h.1, if_pos rfl, ih h.2]
theorem dec_inj {m n : Nat} (hm : m < big48) (hn : n < big48) (h : Lib.decDigits m = Lib.decDigits n) : m = n := by
  have h1 := (parse_text (valid48 hm)).1
  have h2 := (parse_text (valid48 hn)).1
  rw [textV_limbs hm, nvt] at h1
  rw [textV_limbs hn, nvt] at h2
  rw [← h1, h, h2]
def tailT (r : Rat) : List UInt8 := if r.den = 1 then [] else 47 :: Lib.decDigits r.den
theorem tail_sep (r : Rat) : ∀ c l, tailT r = c :: l → isD c = false := by
  intro c l h
  unfold tailT at h
  split at h
  · cases h
  · cases h; rfl
theorem body_take (r : Rat) : (Lib.decDigits r.num.natAbs ++ tailT r).takeWhile isD = Lib.decDigits r.num.natAbs := by
  refine take_digits (dec_all _) ?_ (tail_sep r)
  unfold tailT
  split
  · exact Or.inr rfl
  · exact Or.inl (by simp)
theorem txt_inj {r s : Rat} (hr : fitR r = true) (hs : fitR s = true) (h : txtS r = txtS s) : r = s := by
  have hl : txtL r = txtL s := by
    have := congrArg (fun x => x.data.toList) h
    simpa [txtS] using this
  have e1 : txtL r = (if negR r then [45] else []) ++ (Lib.decDigits r.num.natAbs ++ tailT r) := rfl
  have e2 : txtL s = (if negR s then [45] else []) ++ (Lib.decDigits s.num.natAbs ++ tailT s) := rfl
  rw [e1, e2] at hl
  have hneg : negR r = negR s := by
    have d1 := body_take r
    have d2 := body_take s
    rcases bcase (negR r) with h1 | h1 <;> rcases bcase (negR s) with h2 | h2
    · rw [h1, h2]
    · exfalso
      rw [h1, h2, if_pos rfl, if_neg (by decide), List.nil_append] at hl
      rw [← hl] at d2
      exact dec_ne _ (d2.symm.trans rfl)
    · exfalso
      rw [h1, h2, if_neg (by decide), if_pos rfl, List.nil_append] at hl
      rw [hl] at d1
      exact dec_ne _ (d1.symm.trans rfl)
    · rw [h1, h2]
  rw [hneg] at hl
  have hb := List.append_cancel_left hl
  have hd : Lib.decDigits r.num.natAbs = Lib.decDigits s.num.natAbs := by rw [← body_take r, hb, body_take s]
  rw [hd] at hb
  have ht := List.append_cancel_left hb
  have hp := dec_inj (fitR_iff.mp hr).1 (fitR_iff.mp hs).1 hd
  have hq : r.den = s.den := by
    unfold tailT at ht
    by_cases h1 : r.den = 1 <;> by_cases h2 : s.den = 1
    · rw [h1, h2]
    · rw [if_pos h1, if_neg h2] at ht; cases ht
    · rw [if_neg h1, if_pos h2] at ht; cases ht
    · rw [if_neg h1, if_neg h2] at ht
      exact dec_inj (fitR_iff.mp hr).2 (fitR_iff.mp hs).2 (List.cons.inj ht).2
  exact form_inj hneg (by unfold topL; rw [hp]) (by unfold botL; rw [hq])
theorem same_eq (r s : Rat) : ((negR r == negR s) && (decide (topL r = topL s) && decide (botL r = botL s))) = decide (r = s) := by
  by_cases h : r = s
  · subst h
    have : (negR r == negR r) = true := by cases negR r <;> rfl
    rw [this, decide_eq_true rfl, decide_eq_true rfl, decide_eq_true rfl]; rfl
  · rw [decide_eq_false h]
    rw [Bool.eq_false_iff]
    intro e
    simp only [Bool.and_eq_true, beq_iff_eq, decide_eq_true_eq] at e
    exact h (form_inj e.1 e.2.1 e.2.2)

theorem law_zero (v : Value) (w : World) (hv : InR w v false [] []) :
    Calls Tryd.prog 40 #[v] w fun e w' => e = .returned (.bool true) ∧ Below w.heap.size w w' := by
  obtain ⟨vp, vq, rfl, h1, h2⟩ := hv
  obtain ⟨A, c, rfl, -⟩ := in_open h1
  obtain ⟨B, d, rfl, -⟩ := in_open h2
  clear h1 h2
  go_enter Tryd.func40, Tryd.ntmps40
  go_wp2_with fail
  go_ret
  exact ⟨rfl, below_alloc _ _⟩
#print axioms txt_inj
#print axioms law_zero
end Go.Proofs.YthkhaipbdphpeaaDoor
