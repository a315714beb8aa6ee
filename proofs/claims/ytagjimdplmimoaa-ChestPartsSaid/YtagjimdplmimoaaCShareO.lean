/- The walks of ShareFairs and ShareOrder. -/
import Derived.Test.YtagjimdplmimoaaCShareN
namespace Go.Proofs.Ytagjimdplmimoaa.Share
open Go.ChangeShapes Go.WideShapes Go.RowKit Go.Lib Go.Proofs.Ytagjimdplmimoaa.Mem
set_option linter.unusedVariables false
set_option maxRecDepth 100000

theorem fairB_split {t : Int} {ws : List Int} (h : errS t ws = 0) : fairB (splL t ws) ws = true := by
  have e := splL_sum h
  have ok : FairOk (splL t ws) ws := ⟨splL_len h, splL_pos, by rw [e]; exact (Ok.of h).t1⟩
  rw [fairB_in ok, e, h]
  simp
theorem splL_le {t : Int} {ws : List Int} (h : errS t ws = 0) {i : Nat} {z : Int} (hz : (splL t ws)[i]? = some z) : 0 ≤ z ∧ z ≤ 1125899906842624 := by
  refine ⟨splL_pos z (List.mem_of_getElem? hz), ?_⟩
  have ok := Ok.of h
  have e : splL t ws = lst (fun i => (part t.toNat (wf ws) ws.length i : Int)) ws.length := by unfold splL; rw [if_pos h]; rfl
  rw [e] at hz
  have hi : i < ws.length := by have := lt_of_get hz; rwa [lst_len] at this
  rw [lst_at _ hi] at hz
  cases hz
  have h1 := ok.part_le hi
  have h2 := ok.t1
  have hm : mx = 1125899906842624 := rfl
  omega

end Go.Proofs.Ytagjimdplmimoaa.Share
