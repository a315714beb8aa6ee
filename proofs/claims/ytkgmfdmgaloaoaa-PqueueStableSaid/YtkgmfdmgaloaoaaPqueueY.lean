/- Pop of the reference. -/
import Derived.Test.YtkgmfdmgaloaoaaPqueueX
namespace Go.Proofs.Ytkgmfdmgaloaoaa.PqueueI
open Go.ChangeShapes Go.WideShapes Go.RowKit Go.Lib Go.Proofs.Ytkgmfdmgaloaoaa.Pqueue
set_option linter.unusedVariables false
set_option maxRecDepth 100000

theorem slice_to (A : Option Addr) (n c k : Nat) (hk : k ≤ c) (W : World) : (Instr.slice 31 (.slice A n c) none (some (.int .i64 (k : Int))) none).run Try.prog W = .ok (.slice A k c) W := by
  have ht : Try.prog.underlying 31 = some (.slice (Try.prog.elem 31)) := by kernel_rfl
  have hs : (sizeOf (Try.prog.elem 31)).run Try.prog W = .ok 2 W := Try.sizeOf27 W
  rw [run_slice_h W 31 A n c ht .i64 k (by omega) (by omega), hs]
  simp [sliced, Result.andThen]
  cases A <;> simp [Addr.add]
theorem slice_from {w : World} {A : Option Addr} {c : Nat} {l : List It} (h : Rd cV 2 w A l) (hc : l.length ≤ c) (k : Nat) (hk : k ≤ l.length) :
    ∃ A' c' m, (l.drop k).length = m ∧ (∀ W : World, (Instr.slice 31 (.slice A l.length c) (some (.int .i64 (k : Int))) none none).run Try.prog W = .ok (.slice A' m c') W) ∧ Rd cV 2 w A' (l.drop k) := by
  have ht : Try.prog.underlying 31 = some (.slice (Try.prog.elem 31)) := by kernel_rfl
  refine ⟨if c = k then A else A.map (·.add (k * 2)), c - k, l.length - k, List.length_drop, fun W => ?_, fun j z hz => ?_⟩
  · have hs : (sizeOf (Try.prog.elem 31)).run Try.prog W = .ok 2 W := Try.sizeOf27 W
    rw [run_slice_l W 31 A l.length c ht .i64 k (by omega) (by omega), hs]
    simp [sliced, Result.andThen]
  · rw [List.getElem?_drop] at hz
    obtain ⟨b, off, rfl, hlt, hcell⟩ := h (k + j) z hz
    have := glt hz
    rw [if_neg (by omega)]
    refine ⟨b, off + k * 2, by simp [Addr.add_lit], hlt, fun i u hu => ?_⟩
    rw [show off + k * 2 + (j * 2 + i) = off + ((k + j) * 2 + i) by omega]; exact hcell i u hu
theorem ref_Pop_none {w : World} {g : Nat} {S : Nat → Prop} {m : Int} (hq : Rq w g S m []) :
    Calls Try.prog 16 #[.pointer (some ⟨g, 0, none⟩)] w fun e w' => e = .returned (.tuple #[eV zV, .bool false]) ∧ Below w.heap.size w w' := by
  have hgl := hq.lt g hq.sg
  obtain ⟨A, c, c0, c1, -, -, -, -⟩ := hq.reads
  clear hq
  go_enter Try.func16, Try.ntmps16
  go_wp2_with fail
  (try simp only [Exit.inBlock, Exit.then])
  refine bodyPost_ret (res_box Try.results16 rfl (g := w.heap.size) (x := 0) (y := 0) (by simp) (by simp)) rfl ⟨rfl, ?_⟩
  exact below_alloc _ _
/-- What Pop of the reference leaves. -/
def RPopP (w : World) (g : Nat) (m : Int) (R : List It) (e : Ending) (w' : World) : Prop :=
  ∃ i x S', R[i]? = some x ∧ IsF (lessM m) R i ∧ e = .returned (.tuple #[eV x, .bool true]) ∧ Rq w' g S' m (R.eraseIdx i) ∧ (∀ k, S' k → k = g ∨ w.heap.size ≤ k) ∧ Off (fun k => k = g) w w'
set_option maxHeartbeats 3200000 in
theorem ref_Pop {w : World} {g : Nat} {S : Nat → Prop} {m : Int} {R : List It} (hq : Rq w g S m R) (h0 : 0 < R.length) (hm : R.length ≤ 1000000) :
    Calls Try.prog 16 #[.pointer (some ⟨g, 0, none⟩)] w (RPopP w g m R) := by
  have HQ0 := Lib.hid hq
  have HGLw := Lib.hid (hq.lt g hq.sg)
  obtain ⟨b, x, hf, hx⟩ := isf_ex (m := m) h0
  have HF := Lib.hid hf
  have HX := Lib.hid hx
  obtain ⟨N, hN⟩ : ∃ N, R.length = N := ⟨_, rfl⟩
  have HN := Lib.hid hN
  have HM := Lib.hid hm
  have hbN := glt hx
  rw [hN] at h0 hm hbN
  have hz : ((N : Int) == 0) = false := by simp; omega
  have hz2 : ¬ N = 0 := by omega
  have i1 : (b : Int) < (N : Int) := by omega
  have i2 : (0 : Int) ≤ (b : Int) := by omega
  have hgl0 : g < w.heap.size := HGLw.out
  obtain ⟨A0, c, c0, c1, -, -, -, -⟩ := hq.reads
  rw [hN] at c1
  clear hq hN hf hx
  go_enter Try.func16, Try.ntmps16
  go_wp2_with fail
  clear c0 c1
  generalize hw1 : w.alloc (.cells #[.int .i64 0, .int .i64 0] TV) = w1
  have HBa : Hid (Below w.heap.size w w1) := hw1 ▸ below_alloc _ _
  have HR := Lib.hid (show (w1.cell? ⟨w.heap.size, 0, none⟩ = some (.int .i64 0) ∧ w1.cell? ⟨w.heap.size, 1, none⟩ = some (.int .i64 0)) ∧ (w1.frozen? ⟨w.heap.size, 0, none⟩ = false ∧ w1.frozen? ⟨w.heap.size, 1, none⟩ = false) ∧ w.heap.size < w1.heap.size by subst hw1; simp)
  clear hw1
  refine (ref_first_at (HQ0.out.on HBa.out) HM.out HF.out).mono ?_
  rintro e we ⟨rfl, hbe⟩
  have HBe := Lib.hid hbe
  have HQe := Lib.hid ((HQ0.out.on HBa.out).on hbe)
  clear hbe
  obtain ⟨A, c, c0, c1, -, hrd, -, -⟩ := HQe.out.reads
  obtain ⟨g1, o1, rfl, l1, a0, a1⟩ := rd_cells hrd HX.out
  rw [HN.out] at c1
  have hgl2 := HQe.out.lt g HQe.out.sg
  clear hrd
  go_upto_region 5 with fail
  generalize hw4 : we.alloc (.cells #[.int .i64 x.1, .int .i64 x.2] TV) = w4
  have HB4 : Hid (Below we.heap.size we w4) := hw4 ▸ below_alloc _ _
  have HBX := Lib.hid (show (w4.cell? ⟨we.heap.size, 0, none⟩ = some (.int .i64 x.1) ∧ w4.cell? ⟨we.heap.size, 1, none⟩ = some (.int .i64 x.2)) ∧ we.heap.size < w4.heap.size by subst hw4; simp)
  clear hw4 c0 c1 a0 a1
  have HB14 := Lib.hid (bstep HBe.out HB4.out)
  have HB04 := Lib.hid (bstep HBa.out HB14.out)
  have HRX := Lib.hid (show (w4.cell? ⟨w.heap.size, 0, none⟩ = some (.int .i64 0) ∧ w4.cell? ⟨w.heap.size, 1, none⟩ = some (.int .i64 0)) ∧ (w4.frozen? ⟨w.heap.size, 0, none⟩ = false ∧ w4.frozen? ⟨w.heap.size, 1, none⟩ = false) ∧ w.heap.size < w4.heap.size from
    ⟨⟨(HB14.out.cell (p := ⟨w.heap.size, 0, none⟩) HR.out.2.2).trans HR.out.1.1, (HB14.out.cell (p := ⟨w.heap.size, 1, none⟩) HR.out.2.2).trans HR.out.1.2⟩, ⟨(HB14.out.frozen (p := ⟨w.heap.size, 0, none⟩) HR.out.2.2).trans HR.out.2.1.1, (HB14.out.frozen (p := ⟨w.heap.size, 1, none⟩) HR.out.2.2).trans HR.out.2.1.2⟩, Nat.lt_of_lt_of_le HR.out.2.2 HB14.out.size⟩)
  have HQ := Lib.hid (HQe.out.on HB4.out)
  obtain ⟨A, c, p0, p1, hb, hL, hcap, hcm⟩ := HQ.out.reads
  have HL := Lib.hid hL
  have HGL := Lib.hid (HQ.out.lt g HQ.out.sg)
  obtain ⟨b1, hb1⟩ : ∃ b1, b + 1 = b1 := ⟨_, rfl⟩
  have HB1E := Lib.hid hb1
  obtain ⟨Af, cf, mf, hmf, hsf, hrf⟩ := slice_from hL hcap b1 (by have := HN.out; omega)
  obtain ⟨g1, o1, rfl, l1, -, -⟩ := rd_cells hL HX.out
  have hst := slice_to (some ⟨g1, o1, none⟩) R.length c b (by have := HN.out; omega)
  rw [HN.out] at p1 hb hst hsf
  have HBK := Lib.hid hb
  have HC1 := Lib.hid p1
  have HF1 := Lib.hid (frozen_of hb 1)
  have HMF := Lib.hid hmf
  have HRF := Lib.hid hrf
  have HBT := Lib.hid (show b = (R.take b).length by rw [List.length_take]; have := HN.out; omega)
  have HRT := Lib.hid (HL.out.take b)
  have HB6 := Lib.hid (show b ≤ 1000000 by omega)
  have HSUM := Lib.hid (show b + mf ≤ 1000000 by rw [← hmf, List.length_drop]; have := HN.out; omega)
  have j1 : (b : Int) + 1 = (b1 : Int) := by omega
  have j2 : (b : Int) ≤ 1000000 := by omega
  have j3 : IntKind.i64.wrap ((b : Int) + 1) = (b1 : Int) := by rw [wrap_id (by omega)]; omega
  have j4 : IntKind.i64.wrap (b1 : Int) = (b1 : Int) := wrap_id (by omega)
  have f0 := HF1.out
  have hgl := HGL.out
  clear hL hb hmf hrf hb1 hcap hcm
  go_region_law (first | (refine step_lit w4 rfl (.tmp 23) (.tmp 29) rfl (w4.heap.size) (by first | (simp [Act.eval]; done) | (simp [Act.eval, Act.put]; done)) (by first | exact lit1 _ _ | exact heap_alloc_new _ _) (Nat.le_refl _) (by first | exact below_alloc _ _ | exact below_drew (below_alloc _ _)) (some ⟨g1, o1, none⟩) b c (R.take b) HBT.out (by first | (simp [Act.eval]; done) | (simp [Act.eval, Act.put]; done)) HRT.out HB6.out ?_; intro A1 n1 c1 w2 hn1 hr1 hb1 hs1 hk1; have HN1 := Lib.hid hn1; have HR1 := Lib.hid hr1; have HB1 := Lib.hid hb1; have y1 : w2.cell? ⟨g, 1, none⟩ = some (.slice (some ⟨g1, o1, none⟩) N c) := (hb1.cell (p := ⟨g, 1, none⟩) HGL.out).trans HC1.out; clear hn1 hr1 hb1 hs1 hk1) | (refine step_end w4 w2 rfl (.tmp 30) (.tmp 37) rfl A1 n1 c1 (R.take b) (by first | (simp [Act.eval]; done) | (simp [Act.eval, Act.put]; done)) HR1.out (HN1.out.trans HBT.out) HB1.out (Below.refl _ _) Af mf cf (R.drop b1) HMF.out.symm (by first | (simp [Act.eval]; done) | (simp [Act.eval, Act.put]; done)) ((HRF.out.on HB1.out)) (by rw [HN1.out]; exact HSUM.out) ?_; intro A2 n2 c2 w3 hn2 hr2 hb2; have HR2 := Lib.hid hr2; have HB2 := Lib.hid hb2; have y2 : w3.cell? ⟨g, 1, none⟩ = some (.slice (some ⟨g1, o1, none⟩) N c) := (hb2.cell (p := ⟨g, 1, none⟩) HGL.out).trans HC1.out; have f2 : w3.frozen? ⟨g, 1, none⟩ = false := (hb2.frozen (p := ⟨g, 1, none⟩) HGL.out).trans HF1.out; clear hn2 hr2 hb2))
  all_goals (
    have HD := Lib.hid (HQ.out.laid HBK.out HB2.out HR2.out)
    have hne : (w.heap.size : Nat) ≠ g := by have := HGLw.out; omega
    have hne2 : (we.heap.size : Nat) ≠ g := by have := HGLw.out; have := HBa.out.size; have := HBe.out.size; omega
    have r0 : (w3.setCell ⟨g, 1, none⟩ (.slice A2 n2 c2)).cell? ⟨w.heap.size, 0, none⟩ = some (.int .i64 0) := (World.cell?_of_block (a := ⟨w.heap.size, 0, none⟩) (Below.heap_setCell _ _ _ _ hne)).trans ((HB2.out.cell (p := ⟨w.heap.size, 0, none⟩) HRX.out.2.2).trans HRX.out.1.1)
    have r1 : (w3.setCell ⟨g, 1, none⟩ (.slice A2 n2 c2)).cell? ⟨w.heap.size, 1, none⟩ = some (.int .i64 0) := (World.cell?_of_block (a := ⟨w.heap.size, 1, none⟩) (Below.heap_setCell _ _ _ _ hne)).trans ((HB2.out.cell (p := ⟨w.heap.size, 1, none⟩) HRX.out.2.2).trans HRX.out.1.2)
    have e0 : (w3.setCell ⟨g, 1, none⟩ (.slice A2 n2 c2)).frozen? ⟨w.heap.size, 0, none⟩ = false := (World.frozen?_of_block (a := ⟨w.heap.size, 0, none⟩) (Below.heap_setCell _ _ _ _ hne)).trans ((HB2.out.frozen (p := ⟨w.heap.size, 0, none⟩) HRX.out.2.2).trans HRX.out.2.1.1)
    have e1 : (w3.setCell ⟨g, 1, none⟩ (.slice A2 n2 c2)).frozen? ⟨w.heap.size, 1, none⟩ = false := (World.frozen?_of_block (a := ⟨w.heap.size, 1, none⟩) (Below.heap_setCell _ _ _ _ hne)).trans ((HB2.out.frozen (p := ⟨w.heap.size, 1, none⟩) HRX.out.2.2).trans HRX.out.2.1.2)
    have b0 : (w3.setCell ⟨g, 1, none⟩ (.slice A2 n2 c2)).cell? ⟨we.heap.size, 0, none⟩ = some (.int .i64 x.1) := (World.cell?_of_block (a := ⟨we.heap.size, 0, none⟩) (Below.heap_setCell _ _ _ _ hne2)).trans ((HB2.out.cell (p := ⟨we.heap.size, 0, none⟩) HBX.out.2).trans HBX.out.1.1)
    have b2 : (w3.setCell ⟨g, 1, none⟩ (.slice A2 n2 c2)).cell? ⟨we.heap.size, 1, none⟩ = some (.int .i64 x.2) := (World.cell?_of_block (a := ⟨we.heap.size, 1, none⟩) (Below.heap_setCell _ _ _ _ hne2)).trans ((HB2.out.cell (p := ⟨we.heap.size, 1, none⟩) HBX.out.2).trans HBX.out.1.2)
    have SB := Lib.hid (set_box r0 r1 (.int .i64 x.1) (.int .i64 x.2))
    generalize hw5 : w3.setCell ⟨g, 1, none⟩ (.slice A2 n2 c2) = w5 at *
    clear hw5 hne hne2 p0 p1 y1 y2 f0 f2 hst hsf j1 j3 j4
    go_wp2_with fail
    obtain ⟨S', d1, d2, d3⟩ := HD.out
    (try simp only [Exit.inBlock, Exit.then])
    refine bodyPost_ret (res_box Try.results16 rfl (g := w.heap.size) (x := x.1) (y := x.2) ?_ ?_) rfl ⟨b, x, S', HX.out, HF.out, rfl, ?_, fun k hk => ?_, ?_⟩
    · exact SB.out.1
    · exact SB.out.2
    · have he : R.take b ++ R.drop b1 = R.eraseIdx b := by rw [List.eraseIdx_eq_take_drop_succ, HB1E.out]
      rw [← he]
      refine d1.keep (by simp [World.setCell]) fun k hk => ?_
      have hkr : k ≠ w.heap.size := fun e => by
        rcases d2 k hk with h | h
        · have := HGLw.out; omega
        · have := HRX.out.2.2; omega
      exact (Below.heap_setCell _ _ _ _ hkr).trans (Below.heap_setCell _ _ _ _ hkr)
    · rcases d2 k hk with h | h
      · exact Or.inl h
      · exact Or.inr (Nat.le_trans HB04.out.size h)
    · exact ((Off.before HB04.out d3).set (p := ⟨w.heap.size, 0, none⟩) (Or.inr (Nat.le_refl _)) _).set (p := ⟨w.heap.size, 1, none⟩) (Or.inr (Nat.le_refl _)) _)
#print axioms ref_Pop
end Go.Proofs.Ytkgmfdmgaloaoaa.PqueueI
