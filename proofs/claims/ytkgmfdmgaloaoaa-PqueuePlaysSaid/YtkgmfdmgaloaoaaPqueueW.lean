/- Push of the reference. -/
import Derived.Test.YtkgmfdmgaloaoaaPqueueV
namespace Go.Proofs.Ytkgmfdmgaloaoaa.PqueueI
open Go.ChangeShapes Go.WideShapes Go.RowKit Go.Lib Go.Proofs.Ytkgmfdmgaloaoaa.Pqueue
set_option linter.unusedVariables false
set_option maxRecDepth 100000

theorem lit1 (w1 : World) (o : Obj) : (w1.alloc o).drew.heap[w1.heap.size]? = some o := heap_alloc_new w1 o
theorem lit2 (w1 : World) (o o' : Obj) : ((w1.alloc o).alloc o').drew.heap[w1.heap.size]? = some o := (Below.heap_alloc _ _ _ (by simp)).trans (heap_alloc_new w1 o)
theorem lit3 (w1 : World) (o o' : Obj) : ((w1.alloc o).alloc o').drew.heap[w1.heap.size + 1]? = some o' := by
  have := heap_alloc_new (w1.alloc o) o'
  rw [World.size_alloc] at this
  exact this
/-- What the reference's Push leaves. -/
def RPushP (w : World) (g : Nat) (m : Int) (R : List It) (x : It) (e : Ending) (w' : World) : Prop :=
  e = .returned (.tuple #[]) ∧ ∃ S', Rq w' g S' m (R ++ [x]) ∧ (∀ k, S' k → k = g ∨ w.heap.size ≤ k) ∧ Off (fun k => k = g) w w'

set_option maxHeartbeats 3200000 in
theorem ref_Push {w : World} {g : Nat} {S : Nat → Prop} {m : Int} {R : List It} (hq : Rq w g S m R) (hm : R.length ≤ 900000) (x : It) :
    Calls Try.prog 14 #[.pointer (some ⟨g, 0, none⟩), eV x] w (RPushP w g m R x) := by
  have HQ0 := Lib.hid hq
  obtain ⟨N, hN⟩ : ∃ N, N = R.length := ⟨_, rfl⟩
  have HN := Lib.hid hN
  have HM := Lib.hid (show N ≤ 1000000 by omega)
  have HM1 := Lib.hid (show N + 1 ≤ 1000000 by omega)
  clear hq hm hN
  go_enter Try.func14, Try.ntmps14
  go_upto_region 1 with fail
  generalize hw1 : w.alloc (.cells #[.int .i64 x.1, .int .i64 x.2] TV) = w1
  have HB0 : Hid (Below w.heap.size w w1) := hw1 ▸ below_alloc _ _
  have x0 : w1.cell? ⟨w.heap.size, 0, none⟩ = some (.int .i64 x.1) := by subst hw1; simp
  have x1 : w1.cell? ⟨w.heap.size, 1, none⟩ = some (.int .i64 x.2) := by subst hw1; simp
  have HBL := Lib.hid (show w.heap.size < w1.heap.size by rw [← hw1]; simp)
  have hbl := HBL.out
  clear hw1
  have HQ := Lib.hid (HQ0.out.on HB0.out)
  obtain ⟨A, c, p0, p1, hb, hL, -, -⟩ := HQ.out.reads
  rw [← HN.out] at p1 hb
  have HL := Lib.hid hL
  have HBK := Lib.hid hb
  have HGL := Lib.hid (HQ.out.lt g HQ.out.sg)
  have hgl := HGL.out
  have HC1 := Lib.hid p1
  have HX0 := Lib.hid x0
  have HX1 := Lib.hid x1
  have HF1 := Lib.hid (frozen_of hb 1)
  have f0 := HF1.out
  clear hL hb
  go_region_law (first | (refine step_lit w1 rfl (.tmp 5) (.tmp 9) rfl (w1.heap.size) (by simp [Act.eval]) (by first | exact lit1 _ _ | exact lit2 _ _ _ | exact lit3 _ _ _) (by omega) (by first | exact below_drew (below_alloc _ _) | exact below_drew (bstep (below_alloc _ _) (below_alloc _ _))) A N c R HN.out (by simp [Act.eval]) HL.out HM.out ?_; intro A1 n1 c1 w2 hn1 hr1 hb1 hs1 hk1; have HN1 := Lib.hid hn1; have HR1 := Lib.hid hr1; have HB1 := Lib.hid hb1; have HK1 := Lib.hid hk1; have y1 : w2.cell? ⟨g, 1, none⟩ = some (.slice A N c) := (hb1.cell (p := ⟨g, 1, none⟩) HGL.out).trans HC1.out; have f1 : w2.frozen? ⟨g, 1, none⟩ = false := (hb1.frozen (p := ⟨g, 1, none⟩) HGL.out).trans HF1.out; have z0 : w2.cell? ⟨w.heap.size, 0, none⟩ = some (.int .i64 x.1) := (hb1.cell (p := ⟨w.heap.size, 0, none⟩) HBL.out).trans HX0.out; have z1 : w2.cell? ⟨w.heap.size, 1, none⟩ = some (.int .i64 x.2) := (hb1.cell (p := ⟨w.heap.size, 1, none⟩) HBL.out).trans HX1.out; clear hn1 hr1 hb1 hs1 hk1) | (refine step_lit w1 rfl (.tmp 5) (.tmp 9) rfl (w1.heap.size + 1) (by simp [Act.eval]) (by first | exact lit1 _ _ | exact lit2 _ _ _ | exact lit3 _ _ _) (by omega) (by first | exact below_drew (below_alloc _ _) | exact below_drew (bstep (below_alloc _ _) (below_alloc _ _))) A N c R HN.out (by simp [Act.eval]) HL.out HM.out ?_; intro A1 n1 c1 w2 hn1 hr1 hb1 hs1 hk1; have HN1 := Lib.hid hn1; have HR1 := Lib.hid hr1; have HB1 := Lib.hid hb1; have HK1 := Lib.hid hk1; have y1 : w2.cell? ⟨g, 1, none⟩ = some (.slice A N c) := (hb1.cell (p := ⟨g, 1, none⟩) HGL.out).trans HC1.out; have f1 : w2.frozen? ⟨g, 1, none⟩ = false := (hb1.frozen (p := ⟨g, 1, none⟩) HGL.out).trans HF1.out; have z0 : w2.cell? ⟨w.heap.size, 0, none⟩ = some (.int .i64 x.1) := (hb1.cell (p := ⟨w.heap.size, 0, none⟩) HBL.out).trans HX0.out; have z1 : w2.cell? ⟨w.heap.size, 1, none⟩ = some (.int .i64 x.2) := (hb1.cell (p := ⟨w.heap.size, 1, none⟩) HBL.out).trans HX1.out; clear hn1 hr1 hb1 hs1 hk1) | (refine step_end w1 w2 rfl (.tmp 10) (.tmp 12) rfl A1 n1 c1 R (by simp [Act.eval]) HR1.out (HN1.out.trans HN.out) HB1.out (below_alloc _ _) (some ⟨w2.heap.size, 0, none⟩) 1 1 [x] rfl (by simp [Act.eval]) (rd_one cV_len (heap_alloc_new _ _)) (by rw [HN1.out]; exact HM1.out) ?_; intro A2 n2 c2 w3 hn2 hr2 hb2; have HR2 := Lib.hid hr2; have HB2 := Lib.hid hb2; have y2 : w3.cell? ⟨g, 1, none⟩ = some (.slice A N c) := (hb2.cell (p := ⟨g, 1, none⟩) HGL.out).trans HC1.out; have f2 : w3.frozen? ⟨g, 1, none⟩ = false := (hb2.frozen (p := ⟨g, 1, none⟩) HGL.out).trans HF1.out; clear hn2 hr2 hb2) | (refine step_end w1 w2 rfl (.tmp 10) (.tmp 12) rfl A1 n1 c1 R (by simp [Act.eval]) HR1.out (HN1.out.trans HN.out) HB1.out (Below.refl _ _) (some ⟨w1.heap.size, 0, none⟩) 1 1 [x] rfl (by simp [Act.eval]) (rd_one cV_len ((HK1.out _ _ (by first | exact lit1 _ _ | exact lit2 _ _ _) (by omega)).1)) (by rw [HN1.out]; exact HM1.out) ?_; intro A2 n2 c2 w3 hn2 hr2 hb2; have HR2 := Lib.hid hr2; have HB2 := Lib.hid hb2; have y2 : w3.cell? ⟨g, 1, none⟩ = some (.slice A N c) := (hb2.cell (p := ⟨g, 1, none⟩) HGL.out).trans HC1.out; have f2 : w3.frozen? ⟨g, 1, none⟩ = false := (hb2.frozen (p := ⟨g, 1, none⟩) HGL.out).trans HF1.out; clear hn2 hr2 hb2) | (refine step_end w1 w2 rfl (.tmp 10) (.tmp 12) rfl A1 n1 c1 R (by simp [Act.eval]) HR1.out (HN1.out.trans HN.out) HB1.out (Below.refl _ _) (some ⟨w1.heap.size + 1, 0, none⟩) 1 1 [x] rfl (by simp [Act.eval]) (rd_one cV_len ((HK1.out _ _ (lit3 _ _ _) (by omega)).1)) (by rw [HN1.out]; exact HM1.out) ?_; intro A2 n2 c2 w3 hn2 hr2 hb2; have HR2 := Lib.hid hr2; have HB2 := Lib.hid hb2; have y2 : w3.cell? ⟨g, 1, none⟩ = some (.slice A N c) := (hb2.cell (p := ⟨g, 1, none⟩) HGL.out).trans HC1.out; have f2 : w3.frozen? ⟨g, 1, none⟩ = false := (hb2.frozen (p := ⟨g, 1, none⟩) HGL.out).trans HF1.out; clear hn2 hr2 hb2))
  all_goals (
    have HD := Lib.hid (HQ.out.laid HBK.out HB2.out HR2.out)
    clear p0 p1 y1 y2 f0 f1 f2 x0 x1 z0 z1
    go_end0
    obtain ⟨S', d1, d2, d3⟩ := HD.out
    exact ⟨rfl, S', d1, fun k hk => (d2 k hk).imp_right fun h => Nat.le_trans HB0.out.size h, Off.before HB0.out d3⟩)
#print axioms ref_Push
end Go.Proofs.Ytkgmfdmgaloaoaa.PqueueI
