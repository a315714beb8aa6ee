/- Walk of WirePuts. -/
import Derived.Test.YthcbkjdjkmnbiaaWireJ
namespace Go.Proofs.Ythcbkjdjkmnbiaa.Wire
open Go.ChangeShapes Go.WideShapes Go.RowKit
set_option linter.unusedVariables false
set_option maxRecDepth 100000

theorem Puts.open_ {w : World} {l : List UInt8} {e : Ending} {w' : World} (h : Puts w l e w') : ∃ v, e = .returned v ∧ InY w' v l ∧ Below w.heap.size w w' := by
  obtain ⟨v, h1, h2, h3⟩ := h; exact ⟨v, h1, h2.inY, h3⟩
/-- The way on which something is too long. -/
theorem max_small {s : ByteArray} (h : s.size ≤ maxLen) : s.size ≤ 9223372036854775807 := by unfold maxLen at h; omega
set_option maxHeartbeats 1600000 in
theorem walk_WirePuts (w : World) (A : Option Addr) (n c : Nat) (zs : List Int) (h : InInts .u8 w A n c zs) (m : Int) (hm : (Lit.int .i64 m).wf = true) (s : ByteArray) (hs : s.size ≤ maxLen)
    (A' : Option Addr) (n' c' : Nat) (xs : List Int) (h' : InInts .i64 w A' n' c' xs) :
    Calls Try.prog 3 #[.slice A n c, .int .i64 m, .string s, .slice A' n' c'] w fun e w' => e = .returned (.bool true) ∧ Below w.heap.size w w' := by
  obtain ⟨l, rfl, hy⟩ := in_y h
  obtain ⟨rfl, hi, ha⟩ := in_i h'
  have hls := hy.small
  have hss := max_small hs
  have hxs : xs.length ≤ 9223372036854775807 := by
    obtain ⟨_, _, _, h1, h2, _⟩ := hi
    unfold maxLen at h2; omega
  have HY := Lib.hid hy
  obtain ⟨_, _, e0, _, _, hits⟩ := hi
  cases e0
  have HI := Lib.hid hits
  have HA := Lib.hid ha
  have HM := Lib.hid (wf_isI hm)
  clear h h' hy hits ha hm hs
  rcases Nat.lt_or_ge 300 l.length with hb | hb
  · have hb1 : (300 : Int) < (l.length : Int) := by omega
    go_enter Try.func3, Try.ntmps3
    go_wp2_with fail
    refine (awake_true w).mono ?_
    rintro e0 wz ⟨rfl, hbz⟩
    have HBZ := Lib.hid hbz
    clear hbz
    go_wp2_with fail
    go_ret
    exact ⟨rfl, HBZ.out⟩
  · have hb1 : decide ((300 : Int) < (l.length : Int)) = false := decide_eq_false (by omega)
    rcases Nat.lt_or_ge 300 s.size with hc | hc
    · have hc1 : (300 : Int) < (s.size : Int) := by omega
      go_enter Try.func3, Try.ntmps3
      go_wp2_with fail
      refine (awake_true w).mono ?_
      rintro e0 wz ⟨rfl, hbz⟩
      have HBZ := Lib.hid hbz
      clear hbz
      go_wp2_with fail
      go_ret
      exact ⟨rfl, HBZ.out⟩
    · have hc1 : decide ((300 : Int) < (s.size : Int)) = false := decide_eq_false (by omega)
      rcases Nat.lt_or_ge 300 xs.length with hd | hd
      · have hd1 : (300 : Int) < (xs.length : Int) := by omega
        go_enter Try.func3, Try.ntmps3
        go_wp2_with fail
        refine (awake_true w).mono ?_
        rintro e0 wz ⟨rfl, hbz⟩
        have HBZ := Lib.hid hbz
        clear hbz
        go_wp2_with fail
        go_ret
        exact ⟨rfl, HBZ.out⟩
      · have hd1 : decide ((300 : Int) < (xs.length : Int)) = false := decide_eq_false (by omega)
        have L1 := Lib.hid (show l.length ≤ 50000 by omega)
        have L1' := Lib.hid (show l.length ≤ 100000 by omega)
        have L2 := Lib.hid (show s.size ≤ 100000 by omega)
        have L3 := Lib.hid (show xs.length ≤ 4000 by omega)
        go_enter Try.func3, Try.ntmps3
        go_wp2_with fail
        refine (wire_PutInt _ l m w HM.out (HY.out.on (Below.refl _ _)) L1'.out).mono ?_
        intro e1 w1 hq
        obtain ⟨v1, rfl, hv, hbb⟩ := hq.open_
        have HV1 := Lib.hid hv
        have HB1 := Lib.hid hbb
        clear hv hbb hq
        go_wp2_with fail
        refine (ref_PutInt _ l m w1 HM.out (HY.out.on HB1.out) L1'.out).mono ?_
        intro e2 w2 hq
        obtain ⟨v2, rfl, hv, hbb⟩ := hq.open_
        have HV2 := Lib.hid hv
        have HU1 := Lib.hid (HV1.out.on hbb)
        have HB2 := Lib.hid (bstep HB1.out hbb)
        clear hv hbb HV1 hq
        go_wp2_with fail
        refine (same_is v1 v2 w2 HU1.out HV2.out).mono ?_
        rintro e0 w0 ⟨rfl, rfl⟩
        go_wp2_with fail
        refine (wire_PutText _ l s w2 (HY.out.on HB2.out) L1'.out L2.out).mono ?_
        intro e3 w3 hq
        obtain ⟨v3, rfl, hv, hbb⟩ := hq.open_
        have HV3 := Lib.hid hv
        have HB3 := Lib.hid (bstep HB2.out hbb)
        clear hv hbb hq
        go_wp2_with fail
        refine (ref_PutText _ l s w3 (HY.out.on HB3.out) L1'.out L2.out).mono ?_
        intro e4 w4 hq
        obtain ⟨v4, rfl, hv, hbb⟩ := hq.open_
        have HV4 := Lib.hid hv
        have HU3 := Lib.hid (HV3.out.on hbb)
        have HB4 := Lib.hid (bstep HB3.out hbb)
        clear hv hbb HV3 hq
        go_wp2_with fail
        refine (same_is v3 v4 w4 HU3.out HV4.out).mono ?_
        rintro e0 w0 ⟨rfl, rfl⟩
        go_wp2_with fail
        refine (wire_PutList _ l _ _ xs w4 (HY.out.on HB4.out) L1.out (HI.out.on HB4.out) HA.out L3.out).mono ?_
        intro e5 w5 hq
        obtain ⟨v5, rfl, hv, hbb⟩ := hq.open_
        have HV5 := Lib.hid hv
        have HB5 := Lib.hid (bstep HB4.out hbb)
        clear hv hbb hq
        go_wp2_with fail
        refine (ref_PutList _ l _ _ xs w5 (HY.out.on HB5.out) L1.out (HI.out.on HB5.out) HA.out L3.out).mono ?_
        intro e6 w6 hq
        obtain ⟨v6, rfl, hv, hbb⟩ := hq.open_
        have HV6 := Lib.hid hv
        have HU5 := Lib.hid (HV5.out.on hbb)
        have HB6 := Lib.hid (bstep HB5.out hbb)
        clear hv hbb HV5 hq
        go_wp2_with fail
        refine (same_is v5 v6 w6 HU5.out HV6.out).mono ?_
        rintro e0 w0 ⟨rfl, rfl⟩
        go_wp2_with fail
        refine (awake_true w6).mono ?_
        rintro e0 wz ⟨rfl, hbz⟩
        have HBZ := Lib.hid (bstep HB6.out hbz)
        clear hbz
        go_wp2_with fail
        go_ret
        exact ⟨rfl, HBZ.out⟩
#print axioms walk_WirePuts
end Go.Proofs.Ythcbkjdjkmnbiaa.Wire
