/- Slip of both. -/
import Derived.Test.YtkbnhmgladkojaaAlignH
namespace Go.Proofs.Ytkbnhmgladkojaa.Align
open Go.ChangeShapes Go.WideShapes Go.RowKit Go.Lib Go.Proofs.Ytkbnhmgladkojaa.Rw
set_option linter.unusedVariables false
set_option maxRecDepth 100000

theorem lowD_take {L : List Mk} {k : Nat} {s : Mk} (x : Int) (h : L[k]? = some s) : lowD x (L.take (k + 1)) = min (lowD x (L.take k)) (s.2 - s.1) := by
  rw [take_snoc_of h]; exact lowD_snoc x s _ x
theorem higD_take {L : List Mk} {k : Nat} {s : Mk} (x : Int) (h : L[k]? = some s) : higD x (L.take (k + 1)) = max (higD x (L.take k)) (s.2 - s.1) := by
  rw [take_snoc_of h]; exact higD_snoc x s _ x
theorem slp_ok {L : List Mk} (hz : chkA L = 0) {m q : Mk} {N : Nat} (h : Ac L m q N) : slpV L = (lowD (m.2 - m.1) L, higD (m.2 - m.1) L) := by
  obtain ⟨m', r, rfl, hv⟩ := Va.of hz
  obtain rfl : m' = m := h.fs
  unfold slpV
  rw [if_pos hz]
  simp [lowD, higD]
theorem slp_bad {L : List Mk} (hz : ¬ chkA L = 0) : slpV L = (0, 0) := if_neg hz
theorem min_if (P X : Int) : min P X = if X < P then X else P := by split <;> omega
theorem max_if (P X : Int) : max P X = if P < X then X else P := by split <;> omega
theorem ret_three {x y z a b c : Int} (h : x = a) (h2 : y = b) (h3 : z = c) : Ending.returned (.tuple #[.int .i64 x, .int .i64 y, .int .i64 z]) = .returned (.tuple #[.int .i64 a, .int .i64 b, .int .i64 c]) := by rw [h, h2, h3]

set_option maxHeartbeats 1600000 in
theorem ref_Slip (L : List Mk) (A : Option Addr) (c : Nat) (w : World) (ha : Mks w A L) (hm : L.length ≤ 9223372036854775807) :
    Calls Try.prog 24 #[.slice A L.length c] w fun e w' => e = .returned (.tuple #[.int .i64 (slpV L).1, .int .i64 (slpV L).2, .int .i64 (chkA L)]) ∧ Below w.heap.size w w' := by
  have HA := Lib.hid ha
  clear ha
  obtain ⟨E, hE⟩ : ∃ E, chkA L = E := ⟨_, rfl⟩
  obtain ⟨lo, hi, hV⟩ : ∃ lo hi, slpV L = (lo, hi) := ⟨_, _, rfl⟩
  rw [hV, hE]
  have HV := Lib.hid hV
  have HE := Lib.hid hE
  have HCk := Lib.hid (ref_Check L A c w HA.out hm)
  rw [hE] at HCk
  clear hV hE
  go_enter Try.func24, Try.ntmps24
  go_wp2_with fail
  refine HCk.out.mono ?_
  rintro e w1 ⟨rfl, hb1⟩
  have HB1 := Lib.hid hb1
  clear hb1 HCk
  by_cases hz : E = 0
  · subst hz
    obtain ⟨m, q, N, hac⟩ := Ac.of HE.out
    have HC := Lib.hid hac
    have hN := hac.len
    have h1N := hac.two
    have hNf := hac.few
    obtain ⟨b, off, rfl, hb⟩ := rd_ne (HA.out.on HB1.out) (show 0 < L.length by omega)
    obtain ⟨c0, c1⟩ := at_k (HA.out.on HB1.out) hac.fst
    rw [Nat.zero_mul, Nat.add_zero] at c0 c1
    obtain ⟨D, hD⟩ : ∃ D, m.2 - m.1 = D := ⟨_, rfl⟩
    have hml := hac.at_ hac.fst
    have wD : IntKind.i64.wrap D = D := wrap_id (by omega)
    have i0 : (0 : Int) < (N : Int) + 1 := by omega
    have HS := Lib.hid (slp_ok HE.out hac)
    rw [hD] at HS
    have HD0 : Hid (lowD D (L.take 1) = D ∧ higD D (L.take 1) = D) := by
      rw [← hD, show (1 : Nat) = 0 + 1 from rfl, lowD_take _ hac.fst, higD_take _ hac.fst]
      simp [lowD, higD, Hid]
    clear hac hml
    go_wp2_with fail
    go_quiet (fail)
    have HB2 := Lib.hid (below_drewN HB1.out nq)
    generalize hw2 : w1.drewN nq = w2 at HB2
    clear hw2 c0 c1
    go_wp2_with fail
    go_loopw [6, 7, 8] (fun x y i wr => ∃ k : Nat, k + 1 ≤ N + 1 ∧ i = .int .i64 ((k : Int) + 1) ∧ x = .int .i64 (lowD D (L.take (k + 1))) ∧ y = .int .i64 (higD D (L.take (k + 1))) ∧ Below w.heap.size w wr) (fun _ _ i _ => N + 1 - (intOf i).toNat)
    case atStart => exact ⟨0, by omega, rfl, by rw [HD0.out.1], by rw [HD0.out.2], HB2.out⟩
    case round =>
      obtain ⟨k, hk, rfl, rfl, rfl, hbel⟩ := hrel
      have HB := Lib.hid hbel
      clear hbel
      rcases Nat.lt_or_ge (k + 1) (N + 1) with hlt | hge
      · obtain ⟨s, hs⟩ := get_lt (show k + 1 < L.length by omega)
        obtain ⟨c0, c1⟩ := at_k (HA.out.on HB.out) hs
        have hsl := HC.out.at_ hs
        obtain ⟨X, hX⟩ : ∃ X, s.2 - s.1 = X := ⟨_, rfl⟩
        have wX : IntKind.i64.wrap X = X := wrap_id (by omega)
        have HT := Lib.hid (And.intro (lowD_take D hs) (higD_take D hs))
        rw [hX] at HT
        have i1 : (k : Int) + 1 < (N : Int) + 1 := by omega
        have i2 : (0 : Int) ≤ (k : Int) + 1 := by omega
        obtain ⟨P, hP⟩ : ∃ P, lowD D (L.take (k + 1)) = P := ⟨_, rfl⟩
        obtain ⟨Q, hQ⟩ : ∃ Q, higD D (L.take (k + 1)) = Q := ⟨_, rfl⟩
        rw [hP, hQ] at HT
        rw [hP, hQ]
        clear hs hsl hP hQ
        go_wp2_with fail
        go_region
        all_goals
          go_wp2_with fail
          go_roundw
          case rel => exact ⟨k + 1, by omega, by go_num, by rw [HT.out.1, min_if], by rw [HT.out.2, max_if], below_drew HB.out⟩
          case measure => simp [intOf]; omega
      · obtain rfl : k = N := by omega
        have HT : Hid (lowD D (L.take (k + 1)) = lo ∧ higD D (L.take (k + 1)) = hi) := by
          have h1 := HV.out
          rw [HS.out] at h1
          rw [← hN, List.take_length]
          exact ⟨congrArg Prod.fst h1, congrArg Prod.snd h1⟩
        have i1 : decide ((k : Int) + 1 < (k : Int) + 1) = false := decide_eq_false (by omega)
        go_wp2_with fail
        go_ret3
        exact ⟨ret_three HT.out.1 HT.out.2 rfl, HB.out⟩
  · obtain ⟨z1, z2⟩ := ne_tests hz
    have HS := HV.out
    rw [slp_bad (by rw [HE.out]; exact hz)] at HS
    obtain ⟨rfl, rfl⟩ : 0 = lo ∧ 0 = hi := ⟨congrArg Prod.fst HS, congrArg Prod.snd HS⟩
    clear hz HS
    go_wp2_with fail
    go_ret3
    exact ⟨rfl, HB1.out⟩
set_option maxHeartbeats 1600000 in
theorem align_Slip (L : List Mk) (A : Option Addr) (c : Nat) (w : World) (ha : Mks w A L) (hm : L.length ≤ 9223372036854775807) (hcap : L.length ≤ c) :
    Calls Try.prog 23 #[.slice A L.length c] w fun e w' => e = .returned (.tuple #[.int .i64 (slpV L).1, .int .i64 (slpV L).2, .int .i64 (chkA L)]) ∧ Below w.heap.size w w' := by
  have HA := Lib.hid ha
  clear ha
  obtain ⟨E, hE⟩ : ∃ E, chkA L = E := ⟨_, rfl⟩
  obtain ⟨lo, hi, hV⟩ : ∃ lo hi, slpV L = (lo, hi) := ⟨_, _, rfl⟩
  rw [hV, hE]
  have HV := Lib.hid hV
  have HE := Lib.hid hE
  have HCk := Lib.hid (align_Check L A c w HA.out hm hcap)
  rw [hE] at HCk
  clear hV hE
  go_enter Try.func23, Try.ntmps23
  go_wp2_with fail
  refine HCk.out.mono ?_
  rintro e w1 ⟨rfl, hb1⟩
  have HB1 := Lib.hid hb1
  clear hb1 HCk
  by_cases hz : E = 0
  · subst hz
    obtain ⟨m, q, N, hac⟩ := Ac.of HE.out
    have HC := Lib.hid hac
    have hN := hac.len
    have h1N := hac.two
    have hNf := hac.few
    obtain ⟨b, off, rfl, hb⟩ := rd_ne (HA.out.on HB1.out) (show 0 < L.length by omega)
    obtain ⟨c0, c1⟩ := at_k (HA.out.on HB1.out) hac.fst
    rw [Nat.zero_mul, Nat.add_zero] at c0 c1
    obtain ⟨D, hD⟩ : ∃ D, m.2 - m.1 = D := ⟨_, rfl⟩
    have hml := hac.at_ hac.fst
    have wD : IntKind.i64.wrap D = D := wrap_id (by omega)
    have i0 : (0 : Int) < (N : Int) + 1 := by omega
    have HS := Lib.hid (slp_ok HE.out hac)
    rw [hD] at HS
    clear hac hml
    go_wp2_with fail
    go_quiet (fail)
    have HB2 := Lib.hid (below_drewN HB1.out nq)
    generalize hw2 : w1.drewN nq = w2 at HB2
    clear hw2 c0 c1
    go_wp2_with fail
    go_loopw [6, 7, 27] (fun x y i wr => ∃ k : Nat, k ≤ N + 1 ∧ i = .int .i64 k ∧ x = .int .i64 (lowD D (L.take k)) ∧ y = .int .i64 (higD D (L.take k)) ∧ Below w.heap.size w wr) (fun _ _ i _ => N + 1 - (intOf i).toNat)
    case atStart => exact ⟨0, by omega, rfl, rfl, rfl, HB2.out⟩
    case round =>
      obtain ⟨k, hk, rfl, rfl, rfl, hbel⟩ := hrel
      have HB := Lib.hid hbel
      clear hbel
      rcases Nat.lt_or_ge k (N + 1) with hlt | hge
      · obtain ⟨s, hs⟩ := get_lt (show k < L.length by omega)
        obtain ⟨c0, c1⟩ := at_k (HA.out.on HB.out) hs
        have hbb := rd_lt (HA.out.on HB.out) hs
        have hsl := HC.out.at_ hs
        obtain ⟨X, hX⟩ : ∃ X, s.2 - s.1 = X := ⟨_, rfl⟩
        have wX : IntKind.i64.wrap X = X := wrap_id (by omega)
        have HT := Lib.hid (And.intro (lowD_take D hs) (higD_take D hs))
        rw [hX] at HT
        have i1 : (k : Int) < (N : Int) + 1 := by omega
        have i2 : (0 : Int) ≤ (k : Int) := by omega
        have HBW : Hid (Below w.heap.size w (wr.alloc (.cells #[.int .i64 s.1, .int .i64 s.2] 41))) := HB.out.alloc HB.out.size _
        obtain ⟨P, hP⟩ : ∃ P, lowD D (L.take k) = P := ⟨_, rfl⟩
        obtain ⟨Q, hQ⟩ : ∃ Q, higD D (L.take k) = Q := ⟨_, rfl⟩
        rw [hP, hQ] at HT
        rw [hP, hQ]
        clear hs hsl hP hQ
        go_wp2_with fail
        go_roundw
        case rel => exact ⟨k + 1, by omega, by go_num, by rw [HT.out.1, min_if], by rw [HT.out.2, max_if], HBW.out⟩
        case measure => simp [intOf]; omega
      · obtain rfl : k = N + 1 := by omega
        have HT : Hid (lowD D (L.take (N + 1)) = lo ∧ higD D (L.take (N + 1)) = hi) := by
          have h1 := HV.out
          rw [HS.out] at h1
          rw [← hN, List.take_length]
          exact ⟨congrArg Prod.fst h1, congrArg Prod.snd h1⟩
        have i1 : decide ((N : Int) + 1 < (N : Int) + 1) = false := decide_eq_false (by omega)
        go_wp2_with fail
        go_ret3
        exact ⟨ret_three HT.out.1 HT.out.2 rfl, HB.out⟩
  · obtain ⟨z1, z2⟩ := ne_tests hz
    have HS := HV.out
    rw [slp_bad (by rw [HE.out]; exact hz)] at HS
    obtain ⟨rfl, rfl⟩ : 0 = lo ∧ 0 = hi := ⟨congrArg Prod.fst HS, congrArg Prod.snd HS⟩
    clear hz HS
    go_wp2_with fail
    go_ret3
    exact ⟨rfl, HB1.out⟩
#print axioms ref_Slip
#print axioms align_Slip
end Go.Proofs.Ytkbnhmgladkojaa.Align
