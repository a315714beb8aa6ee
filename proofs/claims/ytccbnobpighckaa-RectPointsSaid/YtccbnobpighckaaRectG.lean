/- next, cover of the reference. -/
import Derived.Test.YtccbnobpighckaaRectF
namespace Go.Proofs.Ytccbnobpighckaa.Rect
open Go.ChangeShapes Go.WideShapes Go.RowKit Go.Lib Go.Proofs.Ytccbnobpighckaa.Rw
set_option linter.unusedVariables false
set_option maxRecDepth 100000

/-- The end that the pass has found. -/
def Nxt (lo hi : Rc → Int) (L : List Rc) (x : Int) (k : Nat) (m : Int) : Prop := (x < m ∧ m ≤ ML) ∧ ∀ (j : Nat) (s : Rc), j < k → L[j]? = some s → (x < lo s → m ≤ lo s) ∧ (x < hi s → m ≤ hi s)
theorem Nxt.step {lo hi : Rc → Int} {L : List Rc} {x m m' : Int} {k : Nat} {s : Rc} (h : Nxt lo hi L x k m) (hs : L[k]? = some s) (hm : m' ≤ m) (hx : x < m') (h1 : x < lo s → m' ≤ lo s) (h2 : x < hi s → m' ≤ hi s) : Nxt lo hi L x (k + 1) m' := by
  refine ⟨⟨hx, Int.le_trans hm h.1.2⟩, fun j u hj hu => ?_⟩
  rcases Nat.lt_or_eq_of_le (Nat.le_of_lt_succ hj) with h3 | h3
  · have := h.2 j u h3 hu
    exact ⟨fun k => Int.le_trans hm (this.1 k), fun k => Int.le_trans hm (this.2 k)⟩
  · subst h3
    rw [hs] at hu; cases hu
    exact ⟨h1, h2⟩

set_option maxHeartbeats 3200000 in
theorem rr_next_true (L : List Rc) (A : Option Addr) (c n : Nat) (hn : n = L.length) (x : Int) (hx : x < 17179869184) (w : World) (ha : Rcs w A L) (hm : n ≤ 9223372036854775807) :
    Calls Try.prog 59 #[.slice A n c, .bool true, .int .i64 x] w fun e w' => ∃ m, e = .returned (.int .i64 m) ∧ NxY L x m ∧ Below w.heap.size w w' := by
  have HA := Lib.hid ha
  have HN := Lib.hid hn
  have HX := Lib.hid hx
  clear ha hn hx
  go_enter Try.func59, Try.ntmps59
  go_wp2_with fail
  go_loopw [7, 8] (fun v i wr => ∃ (k : Nat) (m : Int), k ≤ n ∧ i = .int .i64 k ∧ v = .int .i64 m ∧ Nxt (fun r => r.2.2.1) (fun r => r.2.2.2) L x k m ∧ Below w.heap.size w wr) (fun _ i _ => n - (RowKit.intOf i).toNat)
  case atStart => exact ⟨0, _, Nat.zero_le _, rfl, rfl, ⟨⟨HX.out, Int.le_refl _⟩, fun j s hj => absurd hj (by omega)⟩, Below.refl _ _⟩
  case round =>
    obtain ⟨k, m, hk, rfl, rfl, hnx, hbel⟩ := hrel
    have HNx := Lib.hid hnx
    have HB := Lib.hid hbel
    have hxm := hnx.1.1
    clear hnx hbel
    rcases Nat.lt_or_ge k n with hlt | hge
    · obtain ⟨s, hs⟩ := get_lt (L := L) (k := k) (by have := HN.out; omega)
      obtain ⟨b, off, rfl, hb, e0, e1, e2, e3⟩ := rd_at (HA.out.on HB.out) hs
      have HS := Lib.hid hs
      have i1 : (k : Int) < (n : Int) := by omega
      have i2 : (0 : Int) ≤ (k : Int) := by omega
      have HSt := Lib.hid fun m' => HNx.out.step (m' := m') hs
      clear hs
      by_cases ha0 : x < s.2.2.1
      · have d0 : decide (x < s.2.2.1) = true := decide_eq_true ha0
        obtain ⟨m1, hm1⟩ : ∃ m1, (if s.2.2.1 < m then s.2.2.1 else m) = m1 := ⟨_, rfl⟩
        have hm1' : m1 = min m s.2.2.1 := by rw [← hm1]; exact min_if _ _
        have hk1 : min m s.2.2.1 = m1 := hm1'.symm
        by_cases hb0 : x < s.2.2.2
        · have d1 : decide (x < s.2.2.2) = true := decide_eq_true hb0
          obtain ⟨m2, hm2⟩ : ∃ m2, (if s.2.2.2 < m1 then s.2.2.2 else m1) = m2 := ⟨_, rfl⟩
          have hm2' : m2 = min m1 s.2.2.2 := by rw [← hm2]; exact min_if _ _
          have hk2 : min m1 s.2.2.2 = m2 := hm2'.symm
          have HNs := Lib.hid (HSt.out m2 (by omega) (by omega) (fun _ => by show m2 ≤ s.2.2.1; omega) (fun _ => by show m2 ≤ s.2.2.2; omega))
          clear ha0 hb0 hm1' hm2' hxm HSt
          go_wp2_with fail
          go_quiet (fail)
          go_wp2_with fail
          go_quiet (fail)
          go_wp2_with fail
          go_roundw
          case rel => exact ⟨k + 1, m2, by omega, by go_num, rfl, HNs.out, below_drewN HB.out _⟩
          case measure => simp [RowKit.intOf]; omega
        · have d1 : decide (x < s.2.2.2) = false := decide_eq_false hb0
          have HNs := Lib.hid (HSt.out m1 (by omega) (by omega) (fun _ => by show m1 ≤ s.2.2.1; omega) (fun h => absurd h hb0))
          clear ha0 hb0 hm1' hxm HSt
          go_wp2_with fail
          go_quiet (fail)
          go_wp2_with fail
          go_quiet (fail)
          go_wp2_with fail
          go_roundw
          case rel => exact ⟨k + 1, m1, by omega, by go_num, rfl, HNs.out, below_drewN HB.out _⟩
          case measure => simp [RowKit.intOf]; omega
      · have d0 : decide (x < s.2.2.1) = false := decide_eq_false ha0
        by_cases hb0 : x < s.2.2.2
        · have d1 : decide (x < s.2.2.2) = true := decide_eq_true hb0
          obtain ⟨m2, hm2⟩ : ∃ m2, (if s.2.2.2 < m then s.2.2.2 else m) = m2 := ⟨_, rfl⟩
          have hm2' : m2 = min m s.2.2.2 := by rw [← hm2]; exact min_if _ _
          have hk2 : min m s.2.2.2 = m2 := hm2'.symm
          have HNs := Lib.hid (HSt.out m2 (by omega) (by omega) (fun h => absurd h ha0) (fun _ => by show m2 ≤ s.2.2.2; omega))
          clear ha0 hb0 hm2' hxm HSt
          go_wp2_with fail
          go_quiet (fail)
          go_wp2_with fail
          go_quiet (fail)
          go_wp2_with fail
          go_roundw
          case rel => exact ⟨k + 1, m2, by omega, by go_num, rfl, HNs.out, below_drewN HB.out _⟩
          case measure => simp [RowKit.intOf]; omega
        · have d1 : decide (x < s.2.2.2) = false := decide_eq_false hb0
          have HNs := Lib.hid (HSt.out m (Int.le_refl _) hxm (fun h => absurd h ha0) (fun h => absurd h hb0))
          clear ha0 hb0 hxm HSt
          go_wp2_with fail
          go_quiet (fail)
          go_wp2_with fail
          go_quiet (fail)
          go_wp2_with fail
          go_roundw
          case rel => exact ⟨k + 1, m, by omega, by go_num, rfl, HNs.out, below_drewN HB.out _⟩
          case measure => simp [RowKit.intOf]; omega
    · obtain rfl : k = n := by omega
      have HE : Hid (NxY L x m) := ⟨HNx.out.1, fun r hr => by
        obtain ⟨j, hj⟩ := List.mem_iff_getElem?.mp hr
        exact HNx.out.2 j r (by have := glt hj; have := HN.out; omega) hj⟩
      go_wp2_with fail
      go_ret
      exact ⟨m, rfl, HE.out, HB.out⟩

set_option maxHeartbeats 3200000 in
theorem rr_next_false (L : List Rc) (A : Option Addr) (c n : Nat) (hn : n = L.length) (x : Int) (hx : x < 17179869184) (w : World) (ha : Rcs w A L) (hm : n ≤ 9223372036854775807) :
    Calls Try.prog 59 #[.slice A n c, .bool false, .int .i64 x] w fun e w' => ∃ m, e = .returned (.int .i64 m) ∧ NxX L x m ∧ Below w.heap.size w w' := by
  have HA := Lib.hid ha
  have HN := Lib.hid hn
  have HX := Lib.hid hx
  clear ha hn hx
  go_enter Try.func59, Try.ntmps59
  go_wp2_with fail
  go_loopw [7, 8] (fun v i wr => ∃ (k : Nat) (m : Int), k ≤ n ∧ i = .int .i64 k ∧ v = .int .i64 m ∧ Nxt (fun r => r.1) (fun r => r.2.1) L x k m ∧ Below w.heap.size w wr) (fun _ i _ => n - (RowKit.intOf i).toNat)
  case atStart => exact ⟨0, _, Nat.zero_le _, rfl, rfl, ⟨⟨HX.out, Int.le_refl _⟩, fun j s hj => absurd hj (by omega)⟩, Below.refl _ _⟩
  case round =>
    obtain ⟨k, m, hk, rfl, rfl, hnx, hbel⟩ := hrel
    have HNx := Lib.hid hnx
    have HB := Lib.hid hbel
    have hxm := hnx.1.1
    clear hnx hbel
    rcases Nat.lt_or_ge k n with hlt | hge
    · obtain ⟨s, hs⟩ := get_lt (L := L) (k := k) (by have := HN.out; omega)
      obtain ⟨b, off, rfl, hb, e0, e1, e2, e3⟩ := rd_at (HA.out.on HB.out) hs
      have HS := Lib.hid hs
      have i1 : (k : Int) < (n : Int) := by omega
      have i2 : (0 : Int) ≤ (k : Int) := by omega
      have HSt := Lib.hid fun m' => HNx.out.step (m' := m') hs
      clear hs
      by_cases ha0 : x < s.1
      · have d0 : decide (x < s.1) = true := decide_eq_true ha0
        obtain ⟨m1, hm1⟩ : ∃ m1, (if s.1 < m then s.1 else m) = m1 := ⟨_, rfl⟩
        have hm1' : m1 = min m s.1 := by rw [← hm1]; exact min_if _ _
        have hk1 : min m s.1 = m1 := hm1'.symm
        by_cases hb0 : x < s.2.1
        · have d1 : decide (x < s.2.1) = true := decide_eq_true hb0
          obtain ⟨m2, hm2⟩ : ∃ m2, (if s.2.1 < m1 then s.2.1 else m1) = m2 := ⟨_, rfl⟩
          have hm2' : m2 = min m1 s.2.1 := by rw [← hm2]; exact min_if _ _
          have hk2 : min m1 s.2.1 = m2 := hm2'.symm
          have HNs := Lib.hid (HSt.out m2 (by omega) (by omega) (fun _ => by show m2 ≤ s.1; omega) (fun _ => by show m2 ≤ s.2.1; omega))
          clear ha0 hb0 hm1' hm2' hxm HSt
          go_wp2_with fail
          go_quiet (fail)
          go_wp2_with fail
          go_roundw
          case rel => exact ⟨k + 1, m2, by omega, by go_num, rfl, HNs.out, below_drewN HB.out _⟩
          case measure => simp [RowKit.intOf]; omega
        · have d1 : decide (x < s.2.1) = false := decide_eq_false hb0
          have HNs := Lib.hid (HSt.out m1 (by omega) (by omega) (fun _ => by show m1 ≤ s.1; omega) (fun h => absurd h hb0))
          clear ha0 hb0 hm1' hxm HSt
          go_wp2_with fail
          go_quiet (fail)
          go_wp2_with fail
          go_roundw
          case rel => exact ⟨k + 1, m1, by omega, by go_num, rfl, HNs.out, below_drewN HB.out _⟩
          case measure => simp [RowKit.intOf]; omega
      · have d0 : decide (x < s.1) = false := decide_eq_false ha0
        by_cases hb0 : x < s.2.1
        · have d1 : decide (x < s.2.1) = true := decide_eq_true hb0
          obtain ⟨m2, hm2⟩ : ∃ m2, (if s.2.1 < m then s.2.1 else m) = m2 := ⟨_, rfl⟩
          have hm2' : m2 = min m s.2.1 := by rw [← hm2]; exact min_if _ _
          have hk2 : min m s.2.1 = m2 := hm2'.symm
          have HNs := Lib.hid (HSt.out m2 (by omega) (by omega) (fun h => absurd h ha0) (fun _ => by show m2 ≤ s.2.1; omega))
          clear ha0 hb0 hm2' hxm HSt
          go_wp2_with fail
          go_quiet (fail)
          go_wp2_with fail
          go_roundw
          case rel => exact ⟨k + 1, m2, by omega, by go_num, rfl, HNs.out, below_drewN HB.out _⟩
          case measure => simp [RowKit.intOf]; omega
        · have d1 : decide (x < s.2.1) = false := decide_eq_false hb0
          have HNs := Lib.hid (HSt.out m (Int.le_refl _) hxm (fun h => absurd h ha0) (fun h => absurd h hb0))
          clear ha0 hb0 hxm HSt
          go_wp2_with fail
          go_quiet (fail)
          go_wp2_with fail
          go_roundw
          case rel => exact ⟨k + 1, m, by omega, by go_num, rfl, HNs.out, below_drewN HB.out _⟩
          case measure => simp [RowKit.intOf]; omega
    · obtain rfl : k = n := by omega
      have HE : Hid (NxX L x m) := ⟨HNx.out.1, fun r hr => by
        obtain ⟨j, hj⟩ := List.mem_iff_getElem?.mp hr
        exact HNx.out.2 j r (by have := glt hj; have := HN.out; omega) hj⟩
      go_wp2_with fail
      go_ret
      exact ⟨m, rfl, HE.out, HB.out⟩

set_option maxHeartbeats 3200000 in
theorem rr_cover (L : List Rc) (A : Option Addr) (c n : Nat) (hn : n = L.length) (w : World) (ha : Rcs w A L) (hm : n ≤ 9223372036854775807) :
    Calls Try.prog 45 #[.slice A n c] w fun e w' => e = .returned (.int .i64 (cv L)) ∧ Below w.heap.size w w' := by
  have HA := Lib.hid ha
  have HNy := Lib.hid fun (y : Int) (hy : y < 17179869184) (W : World) (h : Rcs W A L) => rr_next_true L A c n hn y hy W h hm
  have HNx := Lib.hid fun (x : Int) (hx : x < 17179869184) (W : World) (h : Rcs W A L) => rr_next_false L A c n hn x hx W h hm
  have HIn := Lib.hid fun (x y : Int) (W : World) (h : Rcs W A L) => rr_in L A c n hn x y W h hm
  clear ha hn
  go_enter Try.func45, Try.ntmps45
  go_wp2_with fail
  go_loopw [3, 4] (fun v y wr => ∃ Y : Int, y = .int .i64 Y ∧ v = .int .i64 (colTo L Y) ∧ 0 ≤ Y ∧ Y ≤ 17179869184 ∧ Below w.heap.size w wr) (fun _ y _ => (17179869184 - RowKit.intOf y).toNat)
  case atStart => exact ⟨0, rfl, by rw [colTo_zero], Int.le_refl _, by omega, Below.refl _ _⟩
  case round =>
    obtain ⟨Y, rfl, rfl, h0, h1, hbel⟩ := hrel
    have HB := Lib.hid hbel
    clear hbel
    rcases Int.lt_or_le Y 17179869184 with hlt | hge
    · have d0 : decide (Y < 17179869184) = true := decide_eq_true hlt
      have HY := Lib.hid (And.intro h0 hlt)
      obtain ⟨S, hS⟩ : ∃ S, colTo L Y = S := ⟨_, rfl⟩
      rw [hS]
      have HSl := Lib.hid (colTo_lim L h0)
      rw [hS] at HSl
      have HSS := Lib.hid hS
      clear hS h0 h1 hlt
      go_wp2_with fail
      refine (HNy.out Y HY.out.2 wr (HA.out.on HB.out)).mono ?_
      rintro e w1 ⟨U, rfl, hU, hb1⟩
      have HU := Lib.hid hU
      have HB1 := Lib.hid (HB.out.trans (hb1.mono HB.out.size))
      clear hU hb1
      go_wp2_with fail
      obtain ⟨wq, rfl⟩ : ∃ W, W = wr := ⟨wr, rfl⟩
      go_loopw [6, 7] (fun v x wr' => ∃ X : Int, x = .int .i64 X ∧ v = .int .i64 (rowTo L Y X) ∧ 0 ≤ X ∧ X ≤ 12000 ∧ Below w.heap.size w wr') (fun _ x _ => (12000 - RowKit.intOf x).toNat)
      case atStart => exact ⟨0, rfl, by rw [rowTo_zero], Int.le_refl _, by omega, HB1.out⟩
      case round =>
        obtain ⟨X, rfl, rfl, k0, k1, hbel⟩ := hrel
        have HB2 := Lib.hid hbel
        clear hbel
        rcases Int.lt_or_le X 12000 with klt | kge
        · have d1 : decide (X < 12000) = true := decide_eq_true klt
          have HX := Lib.hid (And.intro k0 klt)
          obtain ⟨R, hR⟩ : ∃ R, rowTo L Y X = R := ⟨_, rfl⟩
          rw [hR]
          have HRl := Lib.hid (rowTo_lim L Y k0)
          rw [hR] at HRl
          have HRR := Lib.hid hR
          clear hR k0 k1 klt
          go_wp2_with fail
          refine (HNx.out X (by have := HX.out.2; omega) wr (HA.out.on HB2.out)).mono ?_
          rintro e w2 ⟨V, rfl, hV, hb2⟩
          have HV := Lib.hid hV
          have HB3 := Lib.hid (HB2.out.trans (hb2.mono HB2.out.size))
          have hVx := hV.1.1
          have hxl := HX.out
          have hrl := HRl.out
          obtain ⟨m, hm0⟩ : ∃ m, (if 12000 < V then (12000 : Int) else V) = m := ⟨_, rfl⟩
          have hm1 : m = min V 12000 := by rw [← hm0]; exact min_if _ _
          have hk1 : min V 12000 = m := hm1.symm
          have HM : Hid (X < m ∧ m ≤ 12000 ∧ m ≤ V) := Lib.hid (by omega)
          obtain ⟨T, hT⟩ : ∃ T, inL L X Y = T := ⟨_, rfl⟩
          have HSt := Lib.hid (rowTo_step (y := Y) hV hxl.1 (Int.le_of_lt HM.out.1) HM.out.2.2)
          rw [HRR.out, hT] at HSt
          have HI := Lib.hid fun W h => HIn.out X Y W h
          rw [hT] at HI
          have ww : IntKind.i64.wrap (R + m) = R + m := wrap_id (by omega)
          obtain ⟨Q, hQ⟩ : ∃ Q, R + m - X = Q := ⟨_, rfl⟩
          have wq' : IntKind.i64.wrap Q = Q := wrap_id (by omega)
          have HQ : Hid (T = true → rowTo L Y m = Q) := fun h => by
            have := HSt.out
            rw [h] at this
            simp only [if_true] at this
            omega
          have HQ2 : Hid (T = false → rowTo L Y m = R) := fun h => by
            have := HSt.out
            rw [h] at this
            simp at this
            exact this
          clear hV hb2 hVx hxl hrl hm1 hT
          go_wp2_with fail
          refine (HI.out w2 (HA.out.on HB3.out)).mono ?_
          rintro e w3 ⟨rfl, hb3⟩
          have HB4 := Lib.hid (HB3.out.trans (hb3.mono HB3.out.size))
          clear hb3
          cases T with
          | true =>
            have HE := Lib.hid (HQ.out rfl)
            go_wp2_with fail
            go_roundw
            case rel => exact ⟨m, rfl, by rw [HE.out], by have := HM.out; have := HX.out; omega, HM.out.2.1, HB4.out⟩
            case measure => have := HM.out; have := HX.out; simp [RowKit.intOf]; omega
          | false =>
            have HE := Lib.hid (HQ2.out rfl)
            go_wp2_with fail
            go_roundw
            case rel => exact ⟨m, rfl, by rw [HE.out], by have := HM.out; have := HX.out; omega, HM.out.2.1, HB4.out⟩
            case measure => have := HM.out; have := HX.out; simp [RowKit.intOf]; omega
        · obtain rfl : X = 12000 := by omega
          have hst := colTo_step HU.out HY.out.1
          rw [HSS.out] at hst
          obtain ⟨R, hR⟩ : ∃ R, rowTo L Y 12000 = R := ⟨_, rfl⟩
          have hst' : colTo L U = S + R * (U - Y) := by rw [← hR]; exact hst
          have hrl := rowTo_lim L Y k0
          rw [hR] at hrl
          have hul := HU.out.1
          have hul2 : U ≤ 17179869184 := hul.2
          have hyl := HY.out
          have hsl := HSl.out
          have hcl := colTo_lim L (show (0 : Int) ≤ U by omega)
          obtain ⟨D, hD⟩ : ∃ D, U - Y = D := ⟨_, rfl⟩
          rw [hD] at hst'
          obtain ⟨P, hP⟩ : ∃ P, R * D = P := ⟨_, rfl⟩
          rw [hP] at hst'
          obtain ⟨Q, hQ⟩ : ∃ Q, S + P = Q := ⟨_, rfl⟩
          rw [hQ] at hst'
          have hPp : 0 ≤ P := by rw [← hP]; exact Int.mul_nonneg hrl.1 (by omega)
          rw [hst'] at hcl
          have hcl2 : Q ≤ 12000 * U := hcl.2
          have hsl2 : 0 ≤ S := hsl.1
          have wD : IntKind.i64.wrap D = D := wrap_id (by omega)
          have wP : IntKind.i64.wrap P = P := wrap_id (by omega)
          have wQ : IntKind.i64.wrap Q = Q := wrap_id (by omega)
          have HE := Lib.hid hst'
          have HUl : Hid (0 ≤ U ∧ U ≤ 17179869184 ∧ Y < U) := Lib.hid ⟨by omega, hul.2, hul.1⟩
          have d1 : decide ((12000 : Int) < 12000) = false := by decide
          rw [hR]
          clear hst hst' hrl hul hul2 hyl hsl hcl hcl2 hsl2 hPp hR
          go_wp2_with fail
          go_roundw
          case rel => exact ⟨U, rfl, by rw [HE.out], HUl.out.1, HUl.out.2.1, HB2.out⟩
          case measure => have := HUl.out; simp [RowKit.intOf]; omega
    · obtain rfl : Y = 17179869184 := by omega
      have HE : Hid (colTo L 17179869184 = cv L) := (cv_col L).symm
      go_wp2_with fail
      go_ret
      exact ⟨ret_int HE.out, HB.out⟩
#print axioms rr_next_true
#print axioms rr_next_false
#print axioms rr_cover
end Go.Proofs.Ytccbnobpighckaa.Rect
