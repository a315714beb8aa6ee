/- The contract of nat.foreseen. -/
import Derived.Test.YtmbpcjnlniidkaaDoorNatZ1
namespace Go.Proofs.YtmbpcjnlniidkaaDoor
open Go.ChangeShapes Go.WideShapes Go.RowKit
set_option linter.unusedVariables false

/-- A block of four integers. -/
def Four (w : World) (g : Nat) (a b c d : Int) : Prop := ∃ t, w.heap[g]? = some (.cells #[.int .i64 a, .int .i64 b, .int .i64 c, .int .i64 d] t (0, 0))
theorem Four.row {w : World} {g : Nat} {a b c d : Int} (h : Four w g a b c d) : Row w g [a, b, c, d] := by
  obtain ⟨t, h⟩ := h; exact row_of_heap (zs := [a, b, c, d]) h
theorem Four.lt {w : World} {g : Nat} {a b c d : Int} (h : Four w g a b c d) : g < w.heap.size := h.row.lt
theorem Four.new (w : World) (t : TypeId) (a b c d : Int) : Four (w.alloc (.cells #[.int .i64 a, .int .i64 b, .int .i64 c, .int .i64 d] t)) w.heap.size a b c d := ⟨t, heap_alloc_new w _⟩
theorem Four.keep {w w' : World} {g : Nat} {a b c d : Int} (h : Four w g a b c d) (hk : w'.heap[g]? = w.heap[g]?) : Four w' g a b c d := by
  obtain ⟨t, h⟩ := h; exact ⟨t, hk.trans h⟩
theorem Four.store {w : World} {g : Nat} {a b c d : Int} (h : Four w g a b c d) (a' b' c' d' : Int) :
    Four ((((w.setCell ⟨g, 0, none⟩ (.int .i64 a')).setCell ⟨g, 1, none⟩ (.int .i64 b')).setCell ⟨g, 2, none⟩ (.int .i64 c')).setCell ⟨g, 3, none⟩ (.int .i64 d')) g a' b' c' d' := by
  obtain ⟨t, h⟩ := h
  exact ⟨t, by simp [World.setCell, Array.getElem?_modify, h]⟩

/-- What is foreseen. -/
def SeenRes (w : World) (xs ys : List Int) (e : Ending) (w' : World) : Prop :=
  ∃ a b c d u v u0 v0, e = .returned (.agg #[.int .i64 a, .int .i64 b, .int .i64 c, .int .i64 d]) ∧ LInv u0 v0 (nval xs) (nval ys) a b c d u v ∧ (b ≠ 0 → xs.length = ys.length) ∧ Below w.heap.size w w'

theorem top_word {xs : List Int} {b off c n : Nat} {w : World} (hA : Holds w 0 w.heap.size (some ⟨b, off, none⟩) xs) (hx : lok xs = true) (hn : xs.length = n) (h2 : 2 ≤ n) (W : World) (hW : ∀ i, i < w.heap.size → W.heap[i]? = w.heap[i]?) :
    Calls Tryd.prog 38 #[.slice (some ⟨b, off + (n - 2), none⟩) 2 c] W fun e w' => e = .returned (.int .i64 (nval (xs.drop (n - 2)))) ∧ w' = W := by
  have hl : (xs.drop (n - 2)).length = 2 := by rw [List.length_drop]; omega
  have hS : Holds W 0 w.heap.size (some ⟨b, off + (n - 2), none⟩) (xs.drop (n - 2)) := by
    intro k z hz
    rw [List.getElem?_drop] at hz
    obtain ⟨b', off', e, _, hhi, hc⟩ := hA _ z hz
    cases e
    refine ⟨b, off + (n - 2), rfl, ⟨Nat.zero_le _, Or.inl rfl⟩, hhi, ?_⟩
    rw [Nat.add_assoc]
    exact (World.cell?_of_block (w := w) (a := ⟨b, off + (n - 2 + k), none⟩) (hW b hhi)).trans hc
  have h := nat_word (xs.drop (n - 2)) (some ⟨b, off + (n - 2), none⟩) c 0 w.heap.size W hS (lok_drop hx _) (by omega)
  rw [hl] at h
  exact h.mono fun _ _ k => ⟨k.1, k.2.symm⟩
theorem top_split {xs : List Int} {n : Nat} (hx : lok xs = true) (hn : xs.length = n) (h2 : 2 ≤ n) :
    nval xs = 1000000000 ^ (n - 2) * nval (xs.drop (n - 2)) + nval (xs.take (n - 2)) ∧ 0 ≤ nval (xs.take (n - 2)) ∧ nval (xs.take (n - 2)) ≤ 1000000000 ^ (n - 2) ∧ 0 ≤ nval (xs.drop (n - 2)) ∧ nval (xs.drop (n - 2)) < 1000000000000000000 := by
  have e := nval_append (xs.take (n - 2)) (xs.drop (n - 2))
  rw [List.take_append_drop, List.length_take, Nat.min_eq_left (by omega)] at e
  have a := nval_lt (lok_take hx (n - 2))
  rw [List.length_take, Nat.min_eq_left (by omega)] at a
  have b := nval_small (lok_drop hx (n - 2)) (by rw [List.length_drop]; omega)
  exact ⟨by omega, nval_nonneg (lok_take hx _), by omega, b.1, b.2⟩

set_option maxHeartbeats 3200000 in
theorem nat_foreseen (xs ys : List Int) (A B : Option Addr) (c d : Nat) (w : World) (hA : Holds w 0 w.heap.size A xs) (hB : Holds w 0 w.heap.size B ys) (hx : lok xs = true) (hy : lok ys = true) (hly : 2 < ys.length) (hc : xs.length ≤ c) (hd : ys.length ≤ d)
    (hlx : xs.length ≤ 1000) (hly2 : ys.length ≤ 1000) :
    Calls Tryd.prog 67 #[.slice A xs.length c, .slice B ys.length d] w (SeenRes w xs ys) := by
  have HA := Lib.hid hA
  have HB := Lib.hid hB
  have HX := Lib.hid hx
  have HY := Lib.hid hy
  clear hA hB hx hy
  by_cases hl : xs.length = ys.length
  · go_enter Tryd.func67, Tryd.ntmps67
    rw [← hl] at hly ⊢
    have HL := Lib.hid hl
    obtain ⟨n, hn⟩ : ∃ n, n = xs.length := ⟨_, rfl⟩
    have hn' : ys.length = n := by omega
    obtain ⟨bx, offx, rfl, -, -, -⟩ := HA.out 0 _ (List.getElem?_eq_getElem (by omega))
    obtain ⟨bY, offy, rfl, -, -, -⟩ := HB.out 0 _ (List.getElem?_eq_getElem (by omega))
    rw [← hn] at hly hc hlx ⊢
    have hd' : n ≤ d := by omega
    have tx := top_split HX.out hn.symm (by omega)
    have ty := top_split HY.out hn' (by omega)
    have WX := fun c' W hW => top_word (c := c') HA.out HX.out hn.symm (by omega) W hW
    have WY := fun c' W hW => top_word (c := c') HB.out HY.out hn' (by omega) W hW
    obtain ⟨u0, hu0⟩ : ∃ u0, u0 = nval (xs.drop (n - 2)) := ⟨_, rfl⟩
    obtain ⟨v0, hv0⟩ : ∃ v0, v0 = nval (ys.drop (n - 2)) := ⟨_, rfl⟩
    rw [← hu0] at tx WX
    rw [← hv0] at ty WY
    obtain ⟨tx1, tx2, tx3, tx4, tx5⟩ := tx
    obtain ⟨ty1, ty2, ty3, ty4, ty5⟩ := ty
    have hw0 : ∀ (o1 o2 : Obj) (m i : Nat), i < w.heap.size → (((w.alloc o1).alloc o2).drewN m).heap[i]? = w.heap[i]? := by
      intro o1 o2 m i hi
      show ((w.alloc o1).alloc o2).heap[i]? = _
      rw [Below.heap_alloc _ _ _ (by simp; omega), Below.heap_alloc _ _ _ hi]
    have HWX := Lib.hid WX
    have HWY := Lib.hid WY
    have HW0 := Lib.hid hw0
    have TX1 := Lib.hid tx1
    have TX2 := Lib.hid tx2
    have TX3 := Lib.hid tx3
    have TY1 := Lib.hid ty1
    have TY2 := Lib.hid ty2
    have TY3 := Lib.hid ty3
    have en : (n : Int) - 2 = ((n - 2 : Nat) : Int) := by omega
    have k1 : n - (n - 2) = 2 := by omega
    have k0 : IntKind.i64.wrap ((n - 2 : Nat) : Int) = ((n - 2 : Nat) : Int) := wrap_id (by omega) (by omega)
    have k2 : ¬ c = n - 2 := by omega
    have k3 : ¬ d = n - 2 := by omega
    have k4 : ((n - 2 : Nat) : Int) ≤ (n : Int) := by omega
    clear hl hn hn' hu0 hv0 tx1 tx2 tx3 ty1 ty2 ty3 WX WY hw0
    go_wp2_with fail
    go_quiet ((go_at_call 38; first | (with_reducible exact Calls.quiet_of_same (HWX.out _ _ (fun i hi => HW0.out _ _ _ i hi))) | (with_reducible exact Calls.quiet_of_same (HWY.out _ _ (fun i hi => HW0.out _ _ _ i hi)))))
    obtain ⟨W1, hW1⟩ : ∃ W1, W1 = ((w.alloc (.cells #[.int .i64 0, .int .i64 0, .int .i64 0, .int .i64 0] 66)).alloc (.cells #[.int .i64 1, .int .i64 0, .int .i64 0, .int .i64 1] 66)).drewN nq := ⟨_, rfl⟩
    have f4 : Four W1 w.heap.size 0 0 0 0 := by
      rw [hW1]
      exact ((Four.new w 66 0 0 0 0).keep (w' := (w.alloc _).alloc _) (Below.heap_alloc _ _ _ (by simp))).keep rfl
    have f5 : Four W1 (w.heap.size + 1) 1 0 0 1 := by
      rw [hW1]
      have := Four.new (w.alloc (.cells #[.int .i64 0, .int .i64 0, .int .i64 0, .int .i64 0] 66)) 66 1 0 0 1
      rw [show (w.alloc (.cells #[.int .i64 0, .int .i64 0, .int .i64 0, .int .i64 0] 66)).heap.size = w.heap.size + 1 by simp] at this
      exact this.keep rfl
    have bw : Below w.heap.size w W1 := by rw [hW1]; exact below_drewN (((Below.refl _ _).alloc (Nat.le_refl _) _).alloc (by simp) _) _
    have F4 := Lib.hid f4
    have F5 := Lib.hid f5
    have BW := Lib.hid bw
    rw [← hW1]
    clear f4 f5 bw hW1
    go_wp2_with fail
    go_loopw [6, 7] (fun uv vv wr => ∃ a b e f u v : Int, uv = .int .i64 u ∧ vv = .int .i64 v ∧ u < 1000000000000000000 ∧ v < 1000000000000000000 ∧ LInv u0 v0 (nval xs) (nval ys) a b e f u v ∧ Four wr w.heap.size 0 0 0 0 ∧ Four wr (w.heap.size + 1) a b e f ∧ Below w.heap.size w wr) (fun _ vv _ => (intOf vv).toNat)
    case atStart => exact ⟨1, 0, 0, 1, u0, v0, rfl, rfl, tx5, ty5, linv_start tx4 ty4, F4.out, F5.out, BW.out⟩
    case round =>
      obtain ⟨a, b, e, f, u, v, rfl, rfl, u1, v1, hinv, g4, g5, hbel⟩ := hrel
      have HI := Lib.hid hinv
      have G4 := Lib.hid g4
      have G5 := Lib.hid g5
      have HBL := Lib.hid hbel
      obtain ⟨bd1, bd2, bd3, bd4, bd5, bd6, bd7, bd8⟩ := hinv.bd
      obtain ⟨nn1, nn2⟩ := hinv.nn
      have c0 := g5.row.cell (i := 0) (z := a) rfl
      have c1 := g5.row.cell (i := 1) (z := b) rfl
      have c2 := g5.row.cell (i := 2) (z := e) rfl
      have c3 := g5.row.cell (i := 3) (z := f) rfl
      have z0 := g4.row.cell (i := 0) (z := 0) rfl
      have z1 := g4.row.cell (i := 1) (z := 0) rfl
      have z2 := g4.row.cell (i := 2) (z := 0) rfl
      have z3 := g4.row.cell (i := 3) (z := 0) rfl
      have fr5 := g5.row.frozen
      have fr4 := g4.row.frozen
      have HLL := Lib.hid HL.out
      rcases Int.lt_or_le v 1000000000 with hv | hv
      · have hv' : decide (1000000000 ≤ v) = false := decide_eq_false (by omega)
        clear hinv g4 g5 hbel
        go_wp2_with fail
        have hf := (G4.out.store a b e f).row
        have r0 := hf.cell (i := 0) (z := a) rfl
        have r1 := hf.cell (i := 1) (z := b) rfl
        have r2 := hf.cell (i := 2) (z := e) rfl
        have r3 := hf.cell (i := 3) (z := f) rfl
        exact bodyPost_ret (v := .agg #[.int .i64 a, .int .i64 b, .int .i64 e, .int .i64 f]) (by simp [results, Tryd.results67, go_sem, r0, r1, r2, r3]) rfl
          ⟨a, b, e, f, u, v, u0, v0, rfl, HI.out, fun _ => HL.out, (((HBL.out.setCell (p := ⟨w.heap.size, 0, none⟩) (Nat.le_refl _) _).setCell (p := ⟨w.heap.size, 1, none⟩) (Nat.le_refl _) _).setCell (p := ⟨w.heap.size, 2, none⟩) (Nat.le_refl _) _).setCell (p := ⟨w.heap.size, 3, none⟩) (Nat.le_refl _) _⟩
      · have hua : 0 ≤ u + a ∧ 0 ≤ u + b := by
          rcases hinv.st with ⟨rfl, rfl, rfl, rfl⟩ | st
          · omega
          · omega
        obtain ⟨hua1, hua2⟩ := hua
        obtain ⟨q, hq⟩ : ∃ q, q = (u + a) / (v + e) := ⟨_, rfl⟩
        obtain ⟨q2, hq2⟩ : ∃ q2, q2 = (u + b) / (v + f) := ⟨_, rfl⟩
        have t1 : (u + a).tdiv (v + e) = q := by rw [hq]; exact Int.tdiv_eq_ediv_of_nonneg hua1
        have t2 : (u + b).tdiv (v + f) = q2 := by rw [hq2]; exact Int.tdiv_eq_ediv_of_nonneg hua2
        have q0 : 0 ≤ q := by rw [hq]; exact Int.ediv_nonneg hua1 (by omega)
        have q1 : q ≤ u + a := by rw [hq]; exact Int.ediv_le_self _ hua1
        have q20 : 0 ≤ q2 := by rw [hq2]; exact Int.ediv_nonneg hua2 (by omega)
        have q21 : q2 ≤ u + b := by rw [hq2]; exact Int.ediv_le_self _ hua2
        have m1 : ¬ v + e = 0 := by omega
        have m2 : (v + e == 0) = false := beq_false_of_ne m1
        have m3 : ¬ v + f = 0 := by omega
        have m4 : (v + f == 0) = false := beq_false_of_ne m3
        by_cases hqq : q = q2
        · have hst := linv_step HI.out hv hq (hqq.trans hq2) TX1.out TY1.out (pow_pos' _) TX2.out TX3.out TY2.out TY3.out tx5 ty5
          obtain ⟨s1, s2, s3, s4, s5, s6, s7, s8⟩ := hst.bd
          have snn := hst.nn.2
          have squo := (linv_quo HI.out hv hq (hqq.trans hq2)).1
          have slt : u - q * v < v := by
            have := lt_succ_mul (by omega) squo
            rw [Int.add_mul, Int.one_mul] at this; omega
          have qv0 : 0 ≤ q * v := Int.mul_nonneg q0 (by omega)
          have HST := Lib.hid hst
          subst hqq
          have hqn : (q != q) = false := by simp
          have S5 := Lib.hid (G5.out.store e f (a - q * e) (b - q * f))
          have S4 := Lib.hid (show Four ((((wr.setCell ⟨w.heap.size + 1, 0, none⟩ (.int .i64 e)).setCell ⟨w.heap.size + 1, 1, none⟩ (.int .i64 f)).setCell ⟨w.heap.size + 1, 2, none⟩ (.int .i64 (a - q * e))).setCell ⟨w.heap.size + 1, 3, none⟩ (.int .i64 (b - q * f))) w.heap.size 0 0 0 0 from
            G4.out.keep (by rw [Below.heap_setCell _ _ _ _ (by show w.heap.size ≠ w.heap.size + 1; omega), Below.heap_setCell _ _ _ _ (by show w.heap.size ≠ w.heap.size + 1; omega), Below.heap_setCell _ _ _ _ (by show w.heap.size ≠ w.heap.size + 1; omega), Below.heap_setCell _ _ _ _ (by show w.heap.size ≠ w.heap.size + 1; omega)]))
          have SB := Lib.hid ((((HBL.out.setCell (p := ⟨w.heap.size + 1, 0, none⟩) (Nat.le_succ _) (.int .i64 e)).setCell (p := ⟨w.heap.size + 1, 1, none⟩) (Nat.le_succ _) (.int .i64 f)).setCell (p := ⟨w.heap.size + 1, 2, none⟩) (Nat.le_succ _) (.int .i64 (a - q * e))).setCell (p := ⟨w.heap.size + 1, 3, none⟩) (Nat.le_succ _) (.int .i64 (b - q * f)))
          clear hinv g4 g5 hbel hq hq2 hst squo z0 z1 z2 z3 fr4
          go_wp2_with fail
          go_roundw
          case rel => exact ⟨e, f, a - q * e, b - q * f, v, u - q * v, rfl, rfl, v1, by omega, HST.out, S4.out, S5.out, SB.out⟩
          case measure => simp only [intOf]; omega
        · have hqn : (q != q2) = true := by simpa using hqq
          clear hinv g4 g5 hbel hq hq2 hqq
          go_wp2_with fail
          have hf := (G4.out.store a b e f).row
          have r0 := hf.cell (i := 0) (z := a) rfl
          have r1 := hf.cell (i := 1) (z := b) rfl
          have r2 := hf.cell (i := 2) (z := e) rfl
          have r3 := hf.cell (i := 3) (z := f) rfl
          exact bodyPost_ret (v := .agg #[.int .i64 a, .int .i64 b, .int .i64 e, .int .i64 f]) (by simp [results, Tryd.results67, go_sem, r0, r1, r2, r3]) rfl
            ⟨a, b, e, f, u, v, u0, v0, rfl, HI.out, fun _ => HL.out, (((HBL.out.setCell (p := ⟨w.heap.size, 0, none⟩) (Nat.le_refl _) _).setCell (p := ⟨w.heap.size, 1, none⟩) (Nat.le_refl _) _).setCell (p := ⟨w.heap.size, 2, none⟩) (Nat.le_refl _) _).setCell (p := ⟨w.heap.size, 3, none⟩) (Nat.le_refl _) _⟩
  · have hne : ((xs.length : Int) != (ys.length : Int)) = true := by simp; omega
    go_enter Tryd.func67, Tryd.ntmps67
    go_wp2_with fail
    exact bodyPost_ret (v := .agg #[.int .i64 1, .int .i64 0, .int .i64 0, .int .i64 1]) (by simp [results, Tryd.results67, go_sem]) rfl
      ⟨1, 0, 0, 1, 0, 0, 0, 0, rfl, linv_start (by omega) (by omega), fun h => absurd rfl h, ((Below.refl _ _).alloc (Nat.le_refl _) _).alloc (by simp) _⟩
#print axioms nat_foreseen
end Go.Proofs.YtmbpcjnlniidkaaDoor
