/- first, Peek of the reference. -/
import Derived.Test.YtkgmfdmgaloaoaaPqueueW
namespace Go.Proofs.Ytkgmfdmgaloaoaa.PqueueI
open Go.ChangeShapes Go.WideShapes Go.RowKit Go.Lib Go.Proofs.Ytkgmfdmgaloaoaa.Pqueue
set_option linter.unusedVariables false
set_option maxRecDepth 100000

/-- What first returns: the first value's place. -/
def FirstP (w : World) (m : Int) (R : List It) (e : Ending) (w' : World) : Prop := ∃ b : Nat, e = .returned (.int .i64 (b : Int)) ∧ IsF (lessM m) R b ∧ Below w.heap.size w w'
set_option maxHeartbeats 1600000 in
theorem ref_first {w : World} {g : Nat} {S : Nat → Prop} {m : Int} {R : List It} (hq : Rq w g S m R) (h0 : 0 < R.length) (hm : R.length ≤ 1000000) :
    Calls Try.prog 36 #[.pointer (some ⟨g, 0, none⟩)] w (FirstP w m R) := by
  have HQ := Lib.hid hq
  obtain ⟨N, hN⟩ : ∃ N, R.length = N := ⟨_, rfl⟩
  have HN := Lib.hid hN
  rw [hN] at h0 hm
  clear hq hN
  go_enter Try.func36, Try.ntmps36
  go_wp2_with fail
  go_loopw [3, 4] (fun v i wr => ∃ b k : Nat, v = .int .i64 (b : Int) ∧ i = .int .i64 (k : Int) ∧ 1 ≤ k ∧ k ≤ N ∧ b < k ∧ IsF (lessM m) (R.take k) b ∧ Below w.heap.size w wr) (fun _ i _ => N - (intOf i).toNat)
  case atStart =>
    obtain ⟨x, hx⟩ := get_lt (L := R) (k := 0) (by rw [HN.out]; exact h0)
    exact ⟨0, 1, rfl, rfl, Nat.le_refl _, h0, Nat.one_pos, IsF.start hx, Below.refl _ _⟩
  case round =>
    obtain ⟨b, k, rfl, rfl, hk1, hkN, hbk, hf, hbel⟩ := hrel
    have HF := Lib.hid hf
    have HB := Lib.hid hbel
    have HBK := Lib.hid hbk
    have HK1 := Lib.hid hk1
    have HKN := Lib.hid hkN
    have HQ1 := Lib.hid (HQ.out.on hbel)
    obtain ⟨A, c, c0, c1, -, hrd, -, -⟩ := HQ1.out.reads
    rw [HN.out] at c1
    have hgl := HQ1.out.lt g HQ1.out.sg
    have HRD := Lib.hid hrd
    clear hf hbel hbk hk1 hkN hrd
    rcases Nat.lt_or_ge k N with hlt | hge
    · obtain ⟨x, hx⟩ := get_lt (L := R) (k := k) (by rw [HN.out]; exact hlt)
      obtain ⟨y, hy⟩ := get_lt (L := R) (k := b) (by rw [HN.out]; have := HBK.out; omega)
      obtain ⟨g1, o1, rfl, l1, a0, a1⟩ := rd_cells HRD.out hx
      obtain ⟨g2, o2, eA, l2, b0, b1⟩ := rd_cells HRD.out hy
      cases eA
      have HX := Lib.hid hx
      have HY := Lib.hid hy
      clear hx hy
      have i1 : (k : Int) < (N : Int) := by omega
      have i2 : (0 : Int) ≤ (k : Int) := by omega
      have j1 : (b : Int) < (N : Int) := by have := HBK.out; omega
      have j2 : (0 : Int) ≤ (b : Int) := by omega
      have HK := Lib.hid (show ∀ W, Below wr.heap.size wr W → (W.cell? ⟨g, 0, none⟩ = some (.int .i64 m) ∧ W.cell? ⟨g, 1, none⟩ = some (.slice (some ⟨g1, o1, none⟩) N c)) ∧ (W.cell? ⟨g1, o1 + k * 2, none⟩ = some (.int .i64 x.1) ∧ W.cell? ⟨g1, o1 + k * 2 + 1, none⟩ = some (.int .i64 x.2)) ∧ (W.cell? ⟨g1, o1 + b * 2, none⟩ = some (.int .i64 y.1) ∧ W.cell? ⟨g1, o1 + b * 2 + 1, none⟩ = some (.int .i64 y.2)) from fun W hW =>
        ⟨⟨(hW.cell (p := ⟨g, 0, none⟩) hgl).trans c0, (hW.cell (p := ⟨g, 1, none⟩) hgl).trans c1⟩, ⟨(hW.cell (p := ⟨g1, _, none⟩) l1).trans a0, (hW.cell (p := ⟨g1, _, none⟩) l1).trans a1⟩, (hW.cell (p := ⟨g1, _, none⟩) l1).trans b0, (hW.cell (p := ⟨g1, _, none⟩) l1).trans b1⟩)
      cases hl : lessM m x y with
      | true =>
        have HX2 := Lib.hid (ref_Less m x y)
        rw [hl] at HX2
        have HNEW := Lib.hid (HF.out.step_new (sw_lessM m) HY.out HX.out hl)
        clear hl
        go_wp2_with fail
        go_region_held3 (fun W' => (W'.cell? ⟨g, 0, none⟩ = some (.int .i64 m) ∧ W'.cell? ⟨g, 1, none⟩ = some (.slice (some ⟨g1, o1, none⟩) N c)) ∧ (W'.cell? ⟨g1, o1 + k * 2, none⟩ = some (.int .i64 x.1) ∧ W'.cell? ⟨g1, o1 + k * 2 + 1, none⟩ = some (.int .i64 x.2)) ∧ (W'.cell? ⟨g1, o1 + b * 2, none⟩ = some (.int .i64 y.1) ∧ W'.cell? ⟨g1, o1 + b * 2 + 1, none⟩ = some (.int .i64 y.2)))
          (first | go_keep | exact HK.out _ (bstep (drew_below _) hb2)) (first | (go_at_call 46; (with_reducible refine (HX2.out _).mono ?_); rintro e w2 ⟨rfl, hb2⟩))
        go_wp2_with fail
        go_roundw
        case rel => exact ⟨k, k + 1, rfl, by go_num, by omega, by omega, by omega, HNEW.out, HB.out.trans ((bstep (drew_below _) hb2).mono HB.out.size)⟩
        case measure => simp [intOf]; omega
      | false =>
        have HX2 := Lib.hid (ref_Less m x y)
        rw [hl] at HX2
        have HOLD := Lib.hid (HF.out.step_old HY.out HX.out hl)
        clear hl
        go_wp2_with fail
        go_region_held3 (fun W' => (W'.cell? ⟨g, 0, none⟩ = some (.int .i64 m) ∧ W'.cell? ⟨g, 1, none⟩ = some (.slice (some ⟨g1, o1, none⟩) N c)) ∧ (W'.cell? ⟨g1, o1 + k * 2, none⟩ = some (.int .i64 x.1) ∧ W'.cell? ⟨g1, o1 + k * 2 + 1, none⟩ = some (.int .i64 x.2)) ∧ (W'.cell? ⟨g1, o1 + b * 2, none⟩ = some (.int .i64 y.1) ∧ W'.cell? ⟨g1, o1 + b * 2 + 1, none⟩ = some (.int .i64 y.2)))
          (first | go_keep | exact HK.out _ (bstep (drew_below _) hb2)) (first | (go_at_call 46; (with_reducible refine (HX2.out _).mono ?_); rintro e w2 ⟨rfl, hb2⟩))
        go_wp2_with fail
        go_roundw
        case rel => exact ⟨b, k + 1, rfl, by go_num, by omega, by omega, by have := HBK.out; omega, HOLD.out, HB.out.trans ((bstep (drew_below _) hb2).mono HB.out.size)⟩
        case measure => simp [intOf]; omega
    · have HT : Hid (IsF (lessM m) R b) := by
        have := HF.out
        rw [show k = R.length by have := HKN.out; have := HN.out; omega] at this
        exact this.whole
      go_wp2_with fail
      go_ret
      exact ⟨b, rfl, HT.out, HB.out⟩
#print axioms ref_first
theorem isf_ex {m : Int} {R : List It} (h0 : 0 < R.length) : ∃ b x, IsF (lessM m) R b ∧ R[b]? = some x := by
  obtain ⟨b, hb⟩ := IsF.ex (sw_lessM m) (L := R) R.length h0 (Nat.le_refl _)
  have h1 := hb.whole
  obtain ⟨x, hx, _⟩ := id h1
  exact ⟨b, x, h1, hx⟩
theorem ref_first_at {w : World} {g : Nat} {S : Nat → Prop} {m : Int} {R : List It} (hq : Rq w g S m R) (hm : R.length ≤ 1000000) {b : Nat} (hb : IsF (lessM m) R b) :
    Calls Try.prog 36 #[.pointer (some ⟨g, 0, none⟩)] w fun e w' => e = .returned (.int .i64 (b : Int)) ∧ Below w.heap.size w w' := by
  have h0 : 0 < R.length := by
    obtain ⟨x, hx, _⟩ := hb
    have := glt hx; omega
  refine (ref_first hq h0 hm).mono ?_
  rintro e w' ⟨b', rfl, h1, h2⟩
  obtain rfl := h1.one (sw_lessM m) hb
  exact ⟨rfl, h2⟩
/-- What Peek of the reference returns. -/
def RPeekP (w : World) (m : Int) (R : List It) (e : Ending) (w' : World) : Prop :=
  ∃ i x, R[i]? = some x ∧ IsF (lessM m) R i ∧ e = .returned (.tuple #[eV x, .bool true]) ∧ Below w.heap.size w w'
theorem ref_Peek_none {w : World} {g : Nat} {S : Nat → Prop} {m : Int} (hq : Rq w g S m []) :
    Calls Try.prog 18 #[.pointer (some ⟨g, 0, none⟩)] w fun e w' => e = .returned (.tuple #[eV zV, .bool false]) ∧ Below w.heap.size w w' := by
  have hgl := hq.lt g hq.sg
  obtain ⟨A, c, c0, c1, -, -, -, -⟩ := hq.reads
  clear hq
  go_enter Try.func18, Try.ntmps18
  go_wp2_with fail
  (try simp only [Exit.inBlock, Exit.then])
  refine bodyPost_ret (res_box Try.results18 rfl (g := w.heap.size) (x := 0) (y := 0) (by simp) (by simp)) rfl ⟨rfl, ?_⟩
  exact below_alloc _ _
set_option maxHeartbeats 1600000 in
theorem ref_Peek {w : World} {g : Nat} {S : Nat → Prop} {m : Int} {R : List It} (hq : Rq w g S m R) (h0 : 0 < R.length) (hm : R.length ≤ 1000000) :
    Calls Try.prog 18 #[.pointer (some ⟨g, 0, none⟩)] w (RPeekP w m R) := by
  have HQ := Lib.hid hq
  have hgl := hq.lt g hq.sg
  obtain ⟨A, c, c0, c1, -, hrd, -, -⟩ := hq.reads
  obtain ⟨b, x, hf, hx⟩ := isf_ex (m := m) h0
  obtain ⟨g1, o1, rfl, l1, a0, a1⟩ := rd_cells hrd hx
  have HF := Lib.hid hf
  have HXX := Lib.hid hx
  have hbN := glt hx
  clear hx hf
  obtain ⟨N, hN⟩ : ∃ N, R.length = N := ⟨_, rfl⟩
  have HN := Lib.hid hN
  have HH0 := Lib.hid h0
  have HM := Lib.hid hm
  rw [hN] at c1 h0 hm hbN
  have hz : ((N : Int) == 0) = false := by simp; omega
  have hz2 : ¬ N = 0 := by omega
  have i1 : (b : Int) < (N : Int) := by omega
  have i2 : (0 : Int) ≤ (b : Int) := by omega
  clear hq hN hrd
  go_enter Try.func18, Try.ntmps18
  go_upto_region 3 with fail
  generalize hw1 : w.alloc (.cells #[.int .i64 0, .int .i64 0] TV) = w1
  have HB1 : Hid (Below w.heap.size w w1) := hw1 ▸ below_alloc _ _
  have HR := Lib.hid (show (w1.cell? ⟨w.heap.size, 0, none⟩ = some (.int .i64 0) ∧ w1.cell? ⟨w.heap.size, 1, none⟩ = some (.int .i64 0)) ∧ (w1.frozen? ⟨w.heap.size, 0, none⟩ = false ∧ w1.frozen? ⟨w.heap.size, 1, none⟩ = false) ∧ w.heap.size < w1.heap.size by subst hw1; simp)
  clear hw1
  have d1 : w1.cell? ⟨g, 1, none⟩ = some (.slice (some ⟨g1, o1, none⟩) N c) := (HB1.out.cell (p := ⟨g, 1, none⟩) hgl).trans c1
  have d2 : w1.cell? ⟨g1, o1 + b * 2, none⟩ = some (.int .i64 x.1) := (HB1.out.cell (p := ⟨g1, _, none⟩) l1).trans a0
  have d3 : w1.cell? ⟨g1, o1 + b * 2 + 1, none⟩ = some (.int .i64 x.2) := (HB1.out.cell (p := ⟨g1, _, none⟩) l1).trans a1
  have HK := Lib.hid (show ∀ W, Below w1.heap.size w1 W → W.cell? ⟨g, 1, none⟩ = some (.slice (some ⟨g1, o1, none⟩) N c) ∧ W.cell? ⟨g1, o1 + b * 2, none⟩ = some (.int .i64 x.1) ∧ W.cell? ⟨g1, o1 + b * 2 + 1, none⟩ = some (.int .i64 x.2) from fun W hW =>
    ⟨(hW.cell (p := ⟨g, 1, none⟩) (Nat.lt_of_lt_of_le hgl HB1.out.size)).trans d1, (hW.cell (p := ⟨g1, _, none⟩) (Nat.lt_of_lt_of_le l1 HB1.out.size)).trans d2, (hW.cell (p := ⟨g1, _, none⟩) (Nat.lt_of_lt_of_le l1 HB1.out.size)).trans d3⟩)
  have HX := Lib.hid (ref_first_at (HQ.out.on (bstep HB1.out (drew_below w1))) HM.out HF.out)
  have hne : ¬ g = w.heap.size := by omega
  have hne1 : ¬ g1 = w.heap.size := by omega
  have HK2 := Lib.hid (show ∀ (W : World) (u v : Value), (W.cell? ⟨g, 1, none⟩ = some (.slice (some ⟨g1, o1, none⟩) N c) ∧ W.cell? ⟨g1, o1 + b * 2, none⟩ = some (.int .i64 x.1) ∧ W.cell? ⟨g1, o1 + b * 2 + 1, none⟩ = some (.int .i64 x.2)) → (((W.setCell ⟨w.heap.size, 0, none⟩ u).setCell ⟨w.heap.size, 1, none⟩ v).cell? ⟨g, 1, none⟩ = some (.slice (some ⟨g1, o1, none⟩) N c) ∧ ((W.setCell ⟨w.heap.size, 0, none⟩ u).setCell ⟨w.heap.size, 1, none⟩ v).cell? ⟨g1, o1 + b * 2, none⟩ = some (.int .i64 x.1) ∧ ((W.setCell ⟨w.heap.size, 0, none⟩ u).setCell ⟨w.heap.size, 1, none⟩ v).cell? ⟨g1, o1 + b * 2 + 1, none⟩ = some (.int .i64 x.2)) from fun W u v h =>
    ⟨(World.cell?_setCell_other _ _ _ _ (by simp)).trans ((World.cell?_setCell_other _ _ _ _ (by simp)).trans h.1), (World.cell?_setCell_other _ _ _ _ (by simp)).trans ((World.cell?_setCell_other _ _ _ _ (by simp)).trans h.2.1), (World.cell?_setCell_other _ _ _ _ (by simp)).trans ((World.cell?_setCell_other _ _ _ _ (by simp)).trans h.2.2)⟩)
  clear c0 c1 a0 a1
  go_region_held3 (fun W' => W'.cell? ⟨g, 1, none⟩ = some (.slice (some ⟨g1, o1, none⟩) N c) ∧ W'.cell? ⟨g1, o1 + b * 2, none⟩ = some (.int .i64 x.1) ∧ W'.cell? ⟨g1, o1 + b * 2 + 1, none⟩ = some (.int .i64 x.2))
    (first | exact HK.out _ (bstep (drew_below _) hb2) | exact HK2.out _ _ _ (HK.out _ (bstep (drew_below _) hb2)) | go_keep)
    (first | (go_at_call 36; (with_reducible refine HX.out.mono ?_); rintro e w2 ⟨rfl, hb2⟩; have hb3 := bstep (drew_below w1) hb2; have r0 := (hb3.cell (p := ⟨w.heap.size, 0, none⟩) HR.out.2.2).trans HR.out.1.1; have r1 := (hb3.cell (p := ⟨w.heap.size, 1, none⟩) HR.out.2.2).trans HR.out.1.2; have f0 := (hb3.frozen (p := ⟨w.heap.size, 0, none⟩) HR.out.2.2).trans HR.out.2.1.1; have f1 := (hb3.frozen (p := ⟨w.heap.size, 1, none⟩) HR.out.2.2).trans HR.out.2.1.2; clear hb3))
  have SB := Lib.hid (set_box r0 r1 (.int .i64 x.1) (.int .i64 x.2))
  have HB2 := Lib.hid (bstep HB1.out (bstep (drew_below w1) hb2))
  go_wp2_with fail
  (try simp only [Exit.inBlock, Exit.then])
  refine bodyPost_ret (res_box Try.results18 rfl (g := w.heap.size) (x := x.1) (y := x.2) ?_ ?_) rfl ⟨b, x, HXX.out, HF.out, rfl, ?_⟩
  · exact SB.out.1
  · exact SB.out.2
  · exact (HB2.out.setCell (p := ⟨w.heap.size, 0, none⟩) (Nat.le_refl _) _).setCell (p := ⟨w.heap.size, 1, none⟩) (Nat.le_refl _) _
#print axioms ref_Peek
end Go.Proofs.Ytkgmfdmgaloaoaa.PqueueI
