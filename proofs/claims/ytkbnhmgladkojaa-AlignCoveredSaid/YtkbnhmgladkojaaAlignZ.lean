/- AlignCovered -/
import Derived.Test.YtkbnhmgladkojaaAlignW
namespace Go.Proofs.Ytkbnhmgladkojaa.Align
open Go.ChangeShapes Go.WideShapes Go.RowKit Go.Lib Go.Proofs.Ytkbnhmgladkojaa.Rw
set_option linter.unusedVariables false
set_option maxRecDepth 100000

theorem cov_err {L : List Mk} {f t : Int} (h : ¬ covE L f t = 0) : covV L f t = (0, 0) := by
  unfold covV
  rw [if_neg (fun k => h k.1)]
theorem cov_zero {L : List Mk} {f t : Int} (h : covE L f t = 0) : chkA L = 0 := by
  unfold covE at h
  by_cases hz : chkA L = 0
  · exact hz
  · rw [if_neg hz] at h; exact h
theorem cov_way {L : List Mk} {m q : Mk} {N : Nat} {f t : Int} (h : covE L f t = 0) (hac : Ac L m q N) : f = t ∨ (f < t ∧ m.1 ≤ f ∧ t ≤ q.1 + 1) := by
  have hz := cov_zero h
  unfold covE at h
  rw [if_pos hz, hac.fs, hac.la] at h
  by_cases hc : f = t ∨ (f < t ∧ m.1 ≤ f ∧ t ≤ q.1 + 1)
  · exact hc
  · rw [if_neg hc] at h; cases h
theorem slp_at {L : List Mk} {x : Int} {k : Nat} {p : Mk} (hp : L[k]? = some p) : lowD x L ≤ p.2 - p.1 ∧ p.2 - p.1 ≤ higD x L :=
  ⟨(lowD_le L x).2 p (List.mem_of_getElem? hp), (higD_ge L x).2 p (List.mem_of_getElem? hp)⟩
theorem sound_val2 {L : List Mk} (hz : chkA L = 0) {m q : Mk} {N : Nat} (h : Ac L m q N) {x y : Int} (h0 : m.1 ≤ x) (h1 : x ≤ y) : valA L x ≤ valA L y := by
  obtain ⟨m', r, rfl, hv⟩ := Va.of hz
  obtain rfl : m' = m := h.fs
  exact (fwd_mono hv.gro h0 h1).1
set_option maxHeartbeats 6400000 in
theorem walk_AlignCovered (w : World) (A : Option Addr) (c : Nat) (L : List Mk) (ha : Mks w A L) (hcap : L.length ≤ c) (hm : L.length ≤ 9223372036854775807) (f t : Int) (wf : -9223372036854775808 ≤ f ∧ f ≤ 9223372036854775807) (wt : -9223372036854775808 ≤ t ∧ t ≤ 9223372036854775807) (a k : Int) :
    Calls Try.prog 10 #[.slice A L.length c, .agg #[.int .i64 f, .int .i64 t], .int .i64 a, .int .i64 k] w fun e w' => e = .returned (.bool true) ∧ Below w.heap.size w w' := by
  have HA := Lib.hid ha
  have HCap := Lib.hid hcap
  clear ha hcap
  by_cases hf : L.length ≤ 100
  rotate_left
  · have hfd : decide (L.length ≤ 100) = false := decide_eq_false hf
    clear hf
    go_enter Try.func10, Try.ntmps10
    go_upto_region 1 with fail
    go_wp2_with fail
    refine (law_few L A c _ hfd).mono ?_
    rintro e w' ⟨rfl, rfl⟩
    go_wp2_with fail
    refine (law_awake _).mono ?_
    rintro e w1 ⟨rfl, hb⟩
    have B1 := Lib.hid hb
    clear hb
    go_wp2_with fail
    go_ret
    exact ⟨rfl, (below_alloc _ _).trans (B1.out.mono (below_alloc _ _).size)⟩
  have hfd : decide (L.length ≤ 100) = true := decide_eq_true hf
  clear hf
  have hq0 : ∀ W, (binOp .eql 31 (.agg #[.int .i64 0, .int .i64 0]) (.agg #[.int .i64 0, .int .i64 0])).run Try.prog W = .ok (.bool true) W := fun W => eql_span 0 0 0 0 W
  obtain ⟨E, hE⟩ : ∃ E, covE L f t = E := ⟨_, rfl⟩
  obtain ⟨lo, hi, hV⟩ : ∃ lo hi, covV L f t = (lo, hi) := ⟨_, _, rfl⟩
  have H1 := Lib.hid fun (W : World) (h : Mks W A L) => align_Cover L A c f t W h hm HCap.out wf wt
  rw [hV, hE] at H1
  by_cases hz : E = 0
  rotate_left
  · obtain ⟨z1, z2⟩ := ne_tests hz
    have he := cov_err (by rw [hE]; exact hz)
    rw [hV] at he
    obtain ⟨rfl, rfl⟩ : lo = 0 ∧ hi = 0 := ⟨congrArg Prod.fst he, congrArg Prod.snd he⟩
    clear hz he hE hV wf wt
    go_enter Try.func10, Try.ntmps10
    go_upto_region 1 with fail
    obtain ⟨w0, hw0⟩ : ∃ W, w.alloc (.cells #[.int .i64 f, .int .i64 t] 31) = W := ⟨_, rfl⟩
    have C0 : Hid (Cel w0 w.heap.size [.int .i64 f, .int .i64 t]) := hw0 ▸ Cel.new w [.int .i64 f, .int .i64 t] _
    have B0 : Hid (Below w.heap.size w w0) := hw0 ▸ below_alloc _ _
    rw [hw0]
    clear hw0
    go_wp2_with fail
    refine (law_few L A c w0 hfd).mono ?_
    rintro e w' ⟨rfl, rfl⟩
    obtain ⟨x0, x1⟩ := C0.out.two
    go_wp2_with fail
    refine (H1.out w0 (HA.out.on B0.out)).mono ?_
    rintro e w1 ⟨rfl, hb⟩
    have B1 := Lib.hid (bstep B0.out hb)
    replace C0 := Lib.hid (C0.out.on hb)
    clear x0 x1
    clear hb
    go_upto_region 4 with fail
    generalize hw2 : w1.alloc (.cells #[.int .i64 0, .int .i64 0] 31) = w2
    have C2 : Hid (Cel w2 w1.heap.size [.int .i64 0, .int .i64 0]) := hw2 ▸ Cel.new w1 [.int .i64 0, .int .i64 0] _
    have hb2 : Below w1.heap.size w1 w2 := hw2 ▸ below_alloc _ _
    have B2 := Lib.hid (bstep B1.out hb2)
    replace C0 := Lib.hid (C0.out.on hb2)
    clear hw2 hb2
    obtain ⟨x0, x1⟩ := C0.out.two
    obtain ⟨x2, x3⟩ := C2.out.two
    go_wp2_with fail
    refine (law_awake w2).mono ?_
    rintro e w3 ⟨rfl, hb⟩
    have B3 := Lib.hid (bstep B2.out hb)
    clear hb
    go_wp2_with fail
    go_ret
    exact ⟨rfl, B3.out⟩
  subst hz
  have HZ := Lib.hid (cov_zero hE)
  obtain ⟨m, q, N, hac⟩ := Ac.of HZ.out
  have HC := Lib.hid hac
  have hway := cov_way hE hac
  obtain ⟨d0, hd0⟩ : ∃ d, lowD (m.2 - m.1) L = d := ⟨_, rfl⟩
  obtain ⟨d1, hd1⟩ : ∃ d, higD (m.2 - m.1) L = d := ⟨_, rfl⟩
  have H2 := Lib.hid fun (W : World) (h : Mks W A L) => align_Slip L A c W h hm HCap.out
  rw [slp_ok HZ.out hac, HZ.out, hd0, hd1] at H2
  have HSl : Hid (∀ (j : Nat) (p : Mk), L[j]? = some p → d0 ≤ p.2 - p.1 ∧ p.2 - p.1 ≤ d1) := fun j p hp => by rw [← hd0, ← hd1]; exact slp_at hp
  have HFw := Lib.hid fun (x : Int) (W : World) (h : Mks W A L) => align_Forward L A c x W h hm HCap.out
  have hlo : covV L f t = (lo, hi) := hV
  have HW := Lib.hid hway
  have HV := Lib.hid hV
  clear hac hd0 hd1 hlo hE wf wt hway hV
  go_enter Try.func10, Try.ntmps10
  go_upto_region 1 with fail
  obtain ⟨w0, hw0⟩ : ∃ W, w.alloc (.cells #[.int .i64 f, .int .i64 t] 31) = W := ⟨_, rfl⟩
  have C0 : Hid (Cel w0 w.heap.size [.int .i64 f, .int .i64 t]) := hw0 ▸ Cel.new w [.int .i64 f, .int .i64 t] _
  have B0 : Hid (Below w.heap.size w w0) := hw0 ▸ below_alloc _ _
  rw [hw0]
  clear hw0
  go_wp2_with fail
  refine (law_few L A c w0 hfd).mono ?_
  rintro e w' ⟨rfl, rfl⟩
  obtain ⟨x0, x1⟩ := C0.out.two
  go_wp2_with fail
  refine (H1.out w0 (HA.out.on B0.out)).mono ?_
  rintro e w1 ⟨rfl, hb⟩
  have B1 := Lib.hid (bstep B0.out hb)
  replace C0 := Lib.hid (C0.out.on hb)
  clear x0 x1
  clear hb
  go_upto_region 4 with fail
  generalize hw2 : w1.alloc (.cells #[.int .i64 lo, .int .i64 hi] 31) = w2
  have C2 : Hid (Cel w2 w1.heap.size [.int .i64 lo, .int .i64 hi]) := hw2 ▸ Cel.new w1 [.int .i64 lo, .int .i64 hi] _
  have hb2 : Below w1.heap.size w1 w2 := hw2 ▸ below_alloc _ _
  have B2 := Lib.hid (bstep B1.out hb2)
  replace C0 := Lib.hid (C0.out.on hb2)
  clear hw2 hb2
  obtain ⟨x0, x1⟩ := C0.out.two
  obtain ⟨x2, x3⟩ := C2.out.two
  go_wp2_with fail
  refine (H2.out w2 (HA.out.on B2.out)).mono ?_
  rintro e w3 ⟨rfl, hb⟩
  have B3 := Lib.hid (bstep B2.out hb)
  replace C0 := Lib.hid (C0.out.on hb)
  replace C2 := Lib.hid (C2.out.on hb)
  clear x0 x1 x2 x3
  clear hb
  rcases Int.lt_or_le k 0 with k0 | k0
  · have t8 : decide (0 ≤ k) = false := decide_eq_false (by omega)
    clear k0
    go_wp2_with fail
    go_quiet (fail)
    have hbq : Below w3.heap.size w3 (w3.drewN nq) := below_drewN (Below.refl _ _) nq
    have BQ := Lib.hid (bstep B3.out hbq)
    have CQ0 := Lib.hid (C0.out.on hbq)
    have CQ2 := Lib.hid (C2.out.on hbq)
    clear hbq
    generalize hwq : w3.drewN nq = wq at BQ CQ0 CQ2
    clear hwq C0 C2
    have C0 := CQ0
    have C2 := CQ2
    obtain ⟨x0, x1⟩ := C0.out.two
    obtain ⟨x2, x3⟩ := C2.out.two
    clear CQ0 CQ2
    rcases HW.out with hft | ⟨hft, hf1, ht1⟩
    · have he := (cov_nil HZ.out f).2
      rw [hft, ← hft] at he
      have hv := HV.out
      rw [← hft, he] at hv
      obtain ⟨rfl, rfl⟩ : 0 = lo ∧ 0 = hi := ⟨congrArg Prod.fst hv, congrArg Prod.snd hv⟩
      have t0 : (f == t) = true := by simp [hft]
      clear he hv hft
      go_wp2_with fail
      refine (law_awake wq).mono ?_
      rintro e w4 ⟨rfl, hb⟩
      have B4 := Lib.hid (bstep BQ.out hb)
      clear hb
      go_wp2_with fail
      go_ret
      exact ⟨rfl, B4.out⟩
    · have t0 : (f == t) = false := beq_false_of_ne (by omega)
      have wt : IntKind.i64.wrap (t - 1) = t - 1 := wrap_id (by have h1 := (HC.out.at_ HC.out.fst).1; have h2 := (HC.out.at_ HC.out.lst).2.1; omega)
      obtain ⟨T, hT⟩ : ∃ T, t - 1 = T := ⟨_, rfl⟩
      rw [hT] at wt
      obtain ⟨g1, g2⟩ := fwdE_in HZ.out HC.out hf1 (show f ≤ q.1 by omega)
      obtain ⟨g3, g4⟩ := fwdE_in HZ.out HC.out (show m.1 ≤ T by omega) (show T ≤ q.1 by omega)
      have hv := HV.out
      rw [(cov_in HZ.out HC.out hft hf1 ht1).2, hT] at hv
      obtain ⟨X, hX⟩ : ∃ X, valA L f = X := ⟨_, rfl⟩
      obtain ⟨Y, hY⟩ : ∃ Y, valA L T = Y := ⟨_, rfl⟩
      have hyl := valA_lim HZ.out HC.out (show m.1 ≤ T by omega) (show T ≤ q.1 by omega)
      rw [hX, hY] at hv
      rw [hY] at hyl
      obtain ⟨rfl, rfl⟩ : X = lo ∧ Y + 1 = hi := ⟨congrArg Prod.fst hv, congrArg Prod.snd hv⟩
      have H3 := HFw.out f
      rw [g1, g2, hX] at H3
      have H4 := HFw.out T
      rw [g3, g4, hY] at H4
      replace H3 := Lib.hid H3
      replace H4 := Lib.hid H4
      have wY : IntKind.i64.wrap (Y + 1 - 1) = Y := by rw [Int.add_sub_cancel]; exact wrap_id (by omega)
      have wY2 : IntKind.i64.wrap Y = Y := wrap_id (by omega)
      have wY3 : Y + 1 - 1 = Y := by omega
      have HXY := Lib.hid (And.intro hX hY)
      have HFT := Lib.hid (And.intro hft (And.intro hf1 (And.intro ht1 hT)))
      clear g1 g2 g3 g4 hv hX hY hyl hft hf1 ht1
      go_wp2_with fail
      refine (H3.out wq (HA.out.on BQ.out)).mono ?_
      rintro e w4 ⟨rfl, hb⟩
      have B4 := Lib.hid (bstep BQ.out hb)
      replace C0 := Lib.hid (C0.out.on hb)
      replace C2 := Lib.hid (C2.out.on hb)
      clear x0 x1 x2 x3
      clear hb
      obtain ⟨x0, x1⟩ := C0.out.two
      obtain ⟨x2, x3⟩ := C2.out.two
      go_wp2_with fail
      refine (H4.out w4 (HA.out.on B4.out)).mono ?_
      rintro e w5 ⟨rfl, hb⟩
      have B5 := Lib.hid (bstep B4.out hb)
      replace C0 := Lib.hid (C0.out.on hb)
      replace C2 := Lib.hid (C2.out.on hb)
      clear x0 x1 x2 x3
      clear hb
      obtain ⟨x0, x1⟩ := C0.out.two
      obtain ⟨x2, x3⟩ := C2.out.two
      rcases Int.lt_or_le a f with ka | ka
      · have t1 : decide (a < f) = true := decide_eq_true ka
        clear ka
        go_wp2_with fail
        refine (law_awake w5).mono ?_
        rintro e w6 ⟨rfl, hb⟩
        have B6 := Lib.hid (bstep B5.out hb)
        clear hb
        go_wp2_with fail
        go_ret
        exact ⟨rfl, B6.out⟩
      have t1 : decide (a < f) = false := decide_eq_false (by omega)
      rcases Int.lt_or_le a t with kb | kb
      rotate_left
      · have t2 : decide (t ≤ a) = true := decide_eq_true kb
        clear ka kb
        go_wp2_with fail
        refine (law_awake w5).mono ?_
        rintro e w6 ⟨rfl, hb⟩
        have B6 := Lib.hid (bstep B5.out hb)
        clear hb
        go_wp2_with fail
        go_ret
        exact ⟨rfl, B6.out⟩
      have t2 : decide (t ≤ a) = false := decide_eq_false (by omega)
      obtain ⟨hft, hf1, ht1, -⟩ := HFT.out
      obtain ⟨g1, g2⟩ := fwdE_in HZ.out HC.out (show m.1 ≤ a by omega) (show a ≤ q.1 by omega)
      have hz1 := sound_val2 HZ.out HC.out hf1 ka
      have hz2 := sound_val2 HZ.out HC.out (show m.1 ≤ a by omega) (show a ≤ T by omega)
      rw [HXY.out.1] at hz1
      rw [HXY.out.2] at hz2
      have H5 := HFw.out a
      rw [g1, g2] at H5
      obtain ⟨Z, hZ⟩ : ∃ Z, valA L a = Z := ⟨_, rfl⟩
      rw [hZ] at H5 hz1 hz2
      replace H5 := Lib.hid H5
      have t3 : decide (X ≤ Z) = true := decide_eq_true hz1
      have t4 : decide (Z < Y + 1) = true := decide_eq_true (by omega)
      clear hft hf1 ht1 g1 g2 hz1 hz2 hZ ka kb
      go_wp2_with fail
      refine (H5.out w5 (HA.out.on B5.out)).mono ?_
      rintro e w6 ⟨rfl, hb⟩
      have B6 := Lib.hid (bstep B5.out hb)
      replace C0 := Lib.hid (C0.out.on hb)
      replace C2 := Lib.hid (C2.out.on hb)
      clear x0 x1 x2 x3
      clear hb
      obtain ⟨x0, x1⟩ := C0.out.two
      obtain ⟨x2, x3⟩ := C2.out.two
      go_wp2_with fail
      refine (law_awake w6).mono ?_
      rintro e w7 ⟨rfl, hb⟩
      have B7 := Lib.hid (bstep B6.out hb)
      clear hb
      go_wp2_with fail
      go_ret
      exact ⟨rfl, B7.out⟩
  have t8 : decide (0 ≤ k) = true := decide_eq_true k0
  obtain ⟨K, rfl⟩ := Int.eq_ofNat_of_zero_le k0
  rcases Nat.lt_or_ge K L.length with k1 | k1
  rotate_left
  · have t9 : decide ((K : Int) < (L.length : Int)) = false := decide_eq_false (by omega)
    have t9n : decide (K < L.length) = false := decide_eq_false (by omega)
    clear k0 k1
    go_wp2_with fail
    go_quiet (fail)
    have hbq : Below w3.heap.size w3 (w3.drewN nq) := below_drewN (Below.refl _ _) nq
    have BQ := Lib.hid (bstep B3.out hbq)
    have CQ0 := Lib.hid (C0.out.on hbq)
    have CQ2 := Lib.hid (C2.out.on hbq)
    clear hbq
    generalize hwq : w3.drewN nq = wq at BQ CQ0 CQ2
    clear hwq C0 C2
    have C0 := CQ0
    have C2 := CQ2
    obtain ⟨x0, x1⟩ := C0.out.two
    obtain ⟨x2, x3⟩ := C2.out.two
    clear CQ0 CQ2
    rcases HW.out with hft | ⟨hft, hf1, ht1⟩
    · have he := (cov_nil HZ.out f).2
      rw [hft, ← hft] at he
      have hv := HV.out
      rw [← hft, he] at hv
      obtain ⟨rfl, rfl⟩ : 0 = lo ∧ 0 = hi := ⟨congrArg Prod.fst hv, congrArg Prod.snd hv⟩
      have t0 : (f == t) = true := by simp [hft]
      clear he hv hft
      go_wp2_with fail
      refine (law_awake wq).mono ?_
      rintro e w4 ⟨rfl, hb⟩
      have B4 := Lib.hid (bstep BQ.out hb)
      clear hb
      go_wp2_with fail
      go_ret
      exact ⟨rfl, B4.out⟩
    · have t0 : (f == t) = false := beq_false_of_ne (by omega)
      have wt : IntKind.i64.wrap (t - 1) = t - 1 := wrap_id (by have h1 := (HC.out.at_ HC.out.fst).1; have h2 := (HC.out.at_ HC.out.lst).2.1; omega)
      obtain ⟨T, hT⟩ : ∃ T, t - 1 = T := ⟨_, rfl⟩
      rw [hT] at wt
      obtain ⟨g1, g2⟩ := fwdE_in HZ.out HC.out hf1 (show f ≤ q.1 by omega)
      obtain ⟨g3, g4⟩ := fwdE_in HZ.out HC.out (show m.1 ≤ T by omega) (show T ≤ q.1 by omega)
      have hv := HV.out
      rw [(cov_in HZ.out HC.out hft hf1 ht1).2, hT] at hv
      obtain ⟨X, hX⟩ : ∃ X, valA L f = X := ⟨_, rfl⟩
      obtain ⟨Y, hY⟩ : ∃ Y, valA L T = Y := ⟨_, rfl⟩
      have hyl := valA_lim HZ.out HC.out (show m.1 ≤ T by omega) (show T ≤ q.1 by omega)
      rw [hX, hY] at hv
      rw [hY] at hyl
      obtain ⟨rfl, rfl⟩ : X = lo ∧ Y + 1 = hi := ⟨congrArg Prod.fst hv, congrArg Prod.snd hv⟩
      have H3 := HFw.out f
      rw [g1, g2, hX] at H3
      have H4 := HFw.out T
      rw [g3, g4, hY] at H4
      replace H3 := Lib.hid H3
      replace H4 := Lib.hid H4
      have wY : IntKind.i64.wrap (Y + 1 - 1) = Y := by rw [Int.add_sub_cancel]; exact wrap_id (by omega)
      have wY2 : IntKind.i64.wrap Y = Y := wrap_id (by omega)
      have wY3 : Y + 1 - 1 = Y := by omega
      have HXY := Lib.hid (And.intro hX hY)
      have HFT := Lib.hid (And.intro hft (And.intro hf1 (And.intro ht1 hT)))
      clear g1 g2 g3 g4 hv hX hY hyl hft hf1 ht1
      go_wp2_with fail
      refine (H3.out wq (HA.out.on BQ.out)).mono ?_
      rintro e w4 ⟨rfl, hb⟩
      have B4 := Lib.hid (bstep BQ.out hb)
      replace C0 := Lib.hid (C0.out.on hb)
      replace C2 := Lib.hid (C2.out.on hb)
      clear x0 x1 x2 x3
      clear hb
      obtain ⟨x0, x1⟩ := C0.out.two
      obtain ⟨x2, x3⟩ := C2.out.two
      go_wp2_with fail
      refine (H4.out w4 (HA.out.on B4.out)).mono ?_
      rintro e w5 ⟨rfl, hb⟩
      have B5 := Lib.hid (bstep B4.out hb)
      replace C0 := Lib.hid (C0.out.on hb)
      replace C2 := Lib.hid (C2.out.on hb)
      clear x0 x1 x2 x3
      clear hb
      obtain ⟨x0, x1⟩ := C0.out.two
      obtain ⟨x2, x3⟩ := C2.out.two
      rcases Int.lt_or_le a f with ka | ka
      · have t1 : decide (a < f) = true := decide_eq_true ka
        clear ka
        go_wp2_with fail
        refine (law_awake w5).mono ?_
        rintro e w6 ⟨rfl, hb⟩
        have B6 := Lib.hid (bstep B5.out hb)
        clear hb
        go_wp2_with fail
        go_ret
        exact ⟨rfl, B6.out⟩
      have t1 : decide (a < f) = false := decide_eq_false (by omega)
      rcases Int.lt_or_le a t with kb | kb
      rotate_left
      · have t2 : decide (t ≤ a) = true := decide_eq_true kb
        clear ka kb
        go_wp2_with fail
        refine (law_awake w5).mono ?_
        rintro e w6 ⟨rfl, hb⟩
        have B6 := Lib.hid (bstep B5.out hb)
        clear hb
        go_wp2_with fail
        go_ret
        exact ⟨rfl, B6.out⟩
      have t2 : decide (t ≤ a) = false := decide_eq_false (by omega)
      obtain ⟨hft, hf1, ht1, -⟩ := HFT.out
      obtain ⟨g1, g2⟩ := fwdE_in HZ.out HC.out (show m.1 ≤ a by omega) (show a ≤ q.1 by omega)
      have hz1 := sound_val2 HZ.out HC.out hf1 ka
      have hz2 := sound_val2 HZ.out HC.out (show m.1 ≤ a by omega) (show a ≤ T by omega)
      rw [HXY.out.1] at hz1
      rw [HXY.out.2] at hz2
      have H5 := HFw.out a
      rw [g1, g2] at H5
      obtain ⟨Z, hZ⟩ : ∃ Z, valA L a = Z := ⟨_, rfl⟩
      rw [hZ] at H5 hz1 hz2
      replace H5 := Lib.hid H5
      have t3 : decide (X ≤ Z) = true := decide_eq_true hz1
      have t4 : decide (Z < Y + 1) = true := decide_eq_true (by omega)
      clear hft hf1 ht1 g1 g2 hz1 hz2 hZ ka kb
      go_wp2_with fail
      refine (H5.out w5 (HA.out.on B5.out)).mono ?_
      rintro e w6 ⟨rfl, hb⟩
      have B6 := Lib.hid (bstep B5.out hb)
      replace C0 := Lib.hid (C0.out.on hb)
      replace C2 := Lib.hid (C2.out.on hb)
      clear x0 x1 x2 x3
      clear hb
      obtain ⟨x0, x1⟩ := C0.out.two
      obtain ⟨x2, x3⟩ := C2.out.two
      go_wp2_with fail
      refine (law_awake w6).mono ?_
      rintro e w7 ⟨rfl, hb⟩
      have B7 := Lib.hid (bstep B6.out hb)
      clear hb
      go_wp2_with fail
      go_ret
      exact ⟨rfl, B7.out⟩
  obtain ⟨p, hp⟩ := get_lt k1
  have t9 : decide ((K : Int) < (L.length : Int)) = true := decide_eq_true (by omega)
  have t9n : decide (K < L.length) = true := decide_eq_true k1
  have i2 : (K : Int) < (L.length : Int) := by omega
  obtain ⟨s1, s2⟩ := HSl.out K p hp
  have hpl := HC.out.at_ hp
  obtain ⟨g, off, rfl, hg, c0, c1⟩ := rd_at (HA.out.on B3.out) hp
  obtain ⟨D, hD⟩ : ∃ D, p.2 - p.1 = D := ⟨_, rfl⟩
  rw [hD] at s1 s2
  have wD : IntKind.i64.wrap D = D := wrap_id (by omega)
  have t10 : decide (D < d0) = false := decide_eq_false (by omega)
  have t11 : decide (d1 < D) = false := decide_eq_false (by omega)
  clear k0 hp s1 s2 hpl
  go_wp2_with fail
  go_quiet (fail)
  have hbq : Below w3.heap.size w3 (w3.drewN nq) := below_drewN (Below.refl _ _) nq
  have BQ := Lib.hid (bstep B3.out hbq)
  have CQ0 := Lib.hid (C0.out.on hbq)
  have CQ2 := Lib.hid (C2.out.on hbq)
  clear hbq
  generalize hwq : w3.drewN nq = wq at BQ CQ0 CQ2
  clear hwq C0 C2
  have C0 := CQ0
  have C2 := CQ2
  obtain ⟨x0, x1⟩ := C0.out.two
  obtain ⟨x2, x3⟩ := C2.out.two
  clear CQ0 CQ2
  clear c0 c1 hD wD t8 t9 t9n t10 t11 i2 k1
  rcases HW.out with hft | ⟨hft, hf1, ht1⟩
  · have he := (cov_nil HZ.out f).2
    rw [hft, ← hft] at he
    have hv := HV.out
    rw [← hft, he] at hv
    obtain ⟨rfl, rfl⟩ : 0 = lo ∧ 0 = hi := ⟨congrArg Prod.fst hv, congrArg Prod.snd hv⟩
    have t0 : (f == t) = true := by simp [hft]
    clear he hv hft
    go_wp2_with fail
    refine (law_awake wq).mono ?_
    rintro e w4 ⟨rfl, hb⟩
    have B4 := Lib.hid (bstep BQ.out hb)
    clear hb
    go_wp2_with fail
    go_ret
    exact ⟨rfl, B4.out⟩
  · have t0 : (f == t) = false := beq_false_of_ne (by omega)
    have wt : IntKind.i64.wrap (t - 1) = t - 1 := wrap_id (by have h1 := (HC.out.at_ HC.out.fst).1; have h2 := (HC.out.at_ HC.out.lst).2.1; omega)
    obtain ⟨T, hT⟩ : ∃ T, t - 1 = T := ⟨_, rfl⟩
    rw [hT] at wt
    obtain ⟨g1, g2⟩ := fwdE_in HZ.out HC.out hf1 (show f ≤ q.1 by omega)
    obtain ⟨g3, g4⟩ := fwdE_in HZ.out HC.out (show m.1 ≤ T by omega) (show T ≤ q.1 by omega)
    have hv := HV.out
    rw [(cov_in HZ.out HC.out hft hf1 ht1).2, hT] at hv
    obtain ⟨X, hX⟩ : ∃ X, valA L f = X := ⟨_, rfl⟩
    obtain ⟨Y, hY⟩ : ∃ Y, valA L T = Y := ⟨_, rfl⟩
    have hyl := valA_lim HZ.out HC.out (show m.1 ≤ T by omega) (show T ≤ q.1 by omega)
    rw [hX, hY] at hv
    rw [hY] at hyl
    obtain ⟨rfl, rfl⟩ : X = lo ∧ Y + 1 = hi := ⟨congrArg Prod.fst hv, congrArg Prod.snd hv⟩
    have H3 := HFw.out f
    rw [g1, g2, hX] at H3
    have H4 := HFw.out T
    rw [g3, g4, hY] at H4
    replace H3 := Lib.hid H3
    replace H4 := Lib.hid H4
    have wY : IntKind.i64.wrap (Y + 1 - 1) = Y := by rw [Int.add_sub_cancel]; exact wrap_id (by omega)
    have wY2 : IntKind.i64.wrap Y = Y := wrap_id (by omega)
    have wY3 : Y + 1 - 1 = Y := by omega
    have HXY := Lib.hid (And.intro hX hY)
    have HFT := Lib.hid (And.intro hft (And.intro hf1 (And.intro ht1 hT)))
    clear g1 g2 g3 g4 hv hX hY hyl hft hf1 ht1
    go_wp2_with fail
    refine (H3.out wq (HA.out.on BQ.out)).mono ?_
    rintro e w4 ⟨rfl, hb⟩
    have B4 := Lib.hid (bstep BQ.out hb)
    replace C0 := Lib.hid (C0.out.on hb)
    replace C2 := Lib.hid (C2.out.on hb)
    clear x0 x1 x2 x3
    clear hb
    obtain ⟨x0, x1⟩ := C0.out.two
    obtain ⟨x2, x3⟩ := C2.out.two
    go_wp2_with fail
    refine (H4.out w4 (HA.out.on B4.out)).mono ?_
    rintro e w5 ⟨rfl, hb⟩
    have B5 := Lib.hid (bstep B4.out hb)
    replace C0 := Lib.hid (C0.out.on hb)
    replace C2 := Lib.hid (C2.out.on hb)
    clear x0 x1 x2 x3
    clear hb
    obtain ⟨x0, x1⟩ := C0.out.two
    obtain ⟨x2, x3⟩ := C2.out.two
    rcases Int.lt_or_le a f with ka | ka
    · have t1 : decide (a < f) = true := decide_eq_true ka
      clear ka
      go_wp2_with fail
      refine (law_awake w5).mono ?_
      rintro e w6 ⟨rfl, hb⟩
      have B6 := Lib.hid (bstep B5.out hb)
      clear hb
      go_wp2_with fail
      go_ret
      exact ⟨rfl, B6.out⟩
    have t1 : decide (a < f) = false := decide_eq_false (by omega)
    rcases Int.lt_or_le a t with kb | kb
    rotate_left
    · have t2 : decide (t ≤ a) = true := decide_eq_true kb
      clear ka kb
      go_wp2_with fail
      refine (law_awake w5).mono ?_
      rintro e w6 ⟨rfl, hb⟩
      have B6 := Lib.hid (bstep B5.out hb)
      clear hb
      go_wp2_with fail
      go_ret
      exact ⟨rfl, B6.out⟩
    have t2 : decide (t ≤ a) = false := decide_eq_false (by omega)
    obtain ⟨hft, hf1, ht1, -⟩ := HFT.out
    obtain ⟨g1, g2⟩ := fwdE_in HZ.out HC.out (show m.1 ≤ a by omega) (show a ≤ q.1 by omega)
    have hz1 := sound_val2 HZ.out HC.out hf1 ka
    have hz2 := sound_val2 HZ.out HC.out (show m.1 ≤ a by omega) (show a ≤ T by omega)
    rw [HXY.out.1] at hz1
    rw [HXY.out.2] at hz2
    have H5 := HFw.out a
    rw [g1, g2] at H5
    obtain ⟨Z, hZ⟩ : ∃ Z, valA L a = Z := ⟨_, rfl⟩
    rw [hZ] at H5 hz1 hz2
    replace H5 := Lib.hid H5
    have t3 : decide (X ≤ Z) = true := decide_eq_true hz1
    have t4 : decide (Z < Y + 1) = true := decide_eq_true (by omega)
    clear hft hf1 ht1 g1 g2 hz1 hz2 hZ ka kb
    go_wp2_with fail
    refine (H5.out w5 (HA.out.on B5.out)).mono ?_
    rintro e w6 ⟨rfl, hb⟩
    have B6 := Lib.hid (bstep B5.out hb)
    replace C0 := Lib.hid (C0.out.on hb)
    replace C2 := Lib.hid (C2.out.on hb)
    clear x0 x1 x2 x3
    clear hb
    obtain ⟨x0, x1⟩ := C0.out.two
    obtain ⟨x2, x3⟩ := C2.out.two
    go_wp2_with fail
    refine (law_awake w6).mono ?_
    rintro e w7 ⟨rfl, hb⟩
    have B7 := Lib.hid (bstep B6.out hb)
    clear hb
    go_wp2_with fail
    go_ret
    exact ⟨rfl, B7.out⟩
#print axioms walk_AlignCovered
end Go.Proofs.Ytkbnhmgladkojaa.Align
