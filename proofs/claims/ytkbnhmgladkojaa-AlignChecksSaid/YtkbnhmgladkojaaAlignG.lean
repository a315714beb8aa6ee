/- Scale of the reference. -/
import Derived.Test.YtkbnhmgladkojaaAlignE
namespace Go.Proofs.Ytkbnhmgladkojaa.Align
open Go.ChangeShapes Go.WideShapes Go.RowKit Go.Lib Go.Proofs.Ytkbnhmgladkojaa.Rw
set_option linter.unusedVariables false
set_option maxRecDepth 100000

/-- The bit that is looked at next, k bits being left. -/
def btA : Nat → Int
  | 0 => 0
  | k + 1 => (2 ^ k : Int)
theorem btA_half (k : Nat) : btA (k + 1) / 2 = btA k := by
  cases k with
  | zero => rfl
  | succ k => show (2 ^ (k + 1) : Int) / 2 = (2 ^ k : Int); rw [Int.pow_succ, Int.mul_ediv_cancel _ (by decide)]
theorem btA_lim {k : Nat} (h : k ≤ 60) : 1 ≤ btA (k + 1) ∧ btA (k + 1) ≤ 1152921504606846976 := by
  show 1 ≤ (2 ^ k : Int) ∧ (2 ^ k : Int) ≤ 2 ^ 60
  constructor
  · have : (0 : Int) < 2 ^ k := Int.pow_pos (by decide)
    omega
  · have h1 : (2 : Nat) ^ k ≤ 2 ^ 60 := Nat.pow_le_pow_right (by decide) h
    exact_mod_cast h1
theorem Sc.lim {a b c q r : Int} {k : Nat} (h : Sc a b c k q r) (ha : 0 ≤ a) (hac : a ≤ c) (hc : 1 ≤ c) (hb : 0 ≤ b) : 0 ≤ q ∧ q ≤ b := by
  obtain ⟨h1, h2, h3⟩ := h
  have hp : (0 : Int) < 2 ^ k := Int.pow_pos (by decide)
  have hv : 0 ≤ b / (2 ^ k : Int) := Int.ediv_nonneg hb (Int.le_of_lt hp)
  have hv2 : b / (2 ^ k : Int) ≤ b := Int.ediv_le_self _ hb
  generalize b / (2 ^ k : Int) = v at *
  have e1 : a * v ≤ c * v := Int.mul_le_mul_of_nonneg_right hac hv
  have e0 : 0 ≤ a * v := Int.mul_nonneg ha hv
  constructor
  · have : 0 < (q + 1) * c := by rw [Int.add_mul, Int.one_mul]; omega
    have := Int.pos_of_mul_pos_left this (by omega)
    omega
  · have : q * c ≤ v * c := by rw [Int.mul_comm v c]; omega
    have := Int.le_of_mul_le_mul_right this (by omega)
    omega
/-- Within the subtractions. -/
def Sb (a c v q r : Int) : Prop := q * c + r = a * v ∧ 0 ≤ r ∧ r ≤ 3 * c ∧ 0 ≤ q ∧ q + r / c ≤ 2 * 17179869184 + 3
theorem Sb.start {a b c q r : Int} {k : Nat} (h : Sc a b c (k + 1) q r) (ha : 0 ≤ a) (hac : a ≤ c) (hc : 1 ≤ c) (hb : 0 ≤ b) (hb2 : b ≤ 17179869184) {t p : Int} (hp : b / (2 ^ k : Int) % 2 = p) (ht : t = 2 * r + (if p = 1 then a else 0)) : Sb a c (b / (2 ^ k : Int)) (2 * q) t := by
  have hl := h.lim ha hac hc hb
  have h2 := h.2.1
  have h3 := h.2.2
  have ht' : t ≤ 3 * c ∧ 0 ≤ t := by
    subst ht
    split <;> omega
  refine ⟨h.step (by rw [hp]; exact ht), ht'.2, ht'.1, by omega, ?_⟩
  have : t / c ≤ 3 := by
    have := Int.ediv_le_ediv (show 0 < c by omega) ht'.1
    rwa [Int.mul_ediv_cancel _ (by omega)] at this
  omega
theorem Sb.next {a c v q r : Int} (h : Sb a c v q r) (hc : 1 ≤ c) (hr : c ≤ r) : Sb a c v (q + 1) (r - c) := by
  obtain ⟨h1, h2, h3, h4, h5⟩ := h
  refine ⟨?_, by omega, by omega, by omega, ?_⟩
  · rw [Int.add_mul, Int.one_mul]; omega
  · have : (r - c) / c = r / c - 1 := Int.sub_ediv_of_dvd r (Int.dvd_refl c) |>.trans (by rw [Int.ediv_self (by omega)])
    omega
theorem Sb.lim {a c v q r : Int} (h : Sb a c v q r) (hc : 1 ≤ c) : 0 ≤ q ∧ q ≤ 2 * 17179869184 + 3 ∧ 0 ≤ r ∧ r ≤ 3 * c := by
  obtain ⟨h1, h2, h3, h4, h5⟩ := h
  have : 0 ≤ r / c := Int.ediv_nonneg h2 (by omega)
  exact ⟨h4, by omega, h2, h3⟩

set_option maxHeartbeats 1600000 in
theorem ref_Scale (a b c : Int) (w : World) (ha : 0 ≤ a) (hac : a ≤ c) (hc : 1 ≤ c) (hc2 : c ≤ 17179869184) (hb : 0 ≤ b) (hb2 : b ≤ 17179869184) :
    Calls Try.prog 31 #[.int .i64 a, .int .i64 b, .int .i64 c] w fun e w' => e = .returned (.int .i64 (a * b / c)) ∧ w = w' := by
  have H1 := Lib.hid ha
  have H2 := Lib.hid hac
  have H3 := Lib.hid hc
  have H4 := Lib.hid hc2
  have H5 := Lib.hid hb
  have H6 := Lib.hid hb2
  clear ha hac hc hc2 hb hb2
  go_enter Try.func31, Try.ntmps31
  go_wp2_with fail
  go_loopw [7, 8, 9] (fun q r t wr => ∃ (Q R T : Int) (k : Nat), q = .int .i64 Q ∧ r = .int .i64 R ∧ t = .int .i64 T ∧ k ≤ 61 ∧ T = btA k ∧ Sc a b c k Q R ∧ w = wr) (fun _ _ t _ => (intOf t).toNat)
  case atStart => exact ⟨0, 0, _, 61, rfl, rfl, rfl, Nat.le_refl _, by rfl, Sc.start H3.out H5.out (by have := H6.out; omega), rfl⟩
  case round =>
    obtain ⟨Q, R, T, k, rfl, rfl, rfl, hk, hT, hS, rfl⟩ := hrel
    have HS := Lib.hid hS
    clear hS
    cases k with
    | zero =>
      obtain rfl : T = 0 := hT
      have HE := Lib.hid HS.out.done
      go_wp2_with fail
      go_ret
      exact ⟨ret_int HE.out, rfl⟩
    | succ j =>
      have hlim := btA_lim (k := j) (by omega)
      rw [← hT] at hlim
      have HT := Lib.hid hT
      have HJ := Lib.hid hk
      have hql := HS.out.lim H1.out H2.out H3.out H5.out
      have hr1 := HS.out.2.1
      have hr2 := HS.out.2.2
      have b3 := H3.out
      have b4 := H4.out
      have b5 := H5.out
      have b6 := H6.out
      have b1 := H1.out
      have b2 := H2.out
      obtain ⟨V, hV⟩ : ∃ V, b / T = V := ⟨_, rfl⟩
      have hV0 : 0 ≤ V := by rw [← hV]; exact Int.ediv_nonneg b5 (by omega)
      have hV1 : V ≤ b := by rw [← hV]; exact Int.ediv_le_self _ b5
      have hVt : b.tdiv T = V := by rw [Int.tdiv_eq_ediv_of_nonneg b5]; exact hV
      have HV : Hid (V = b / (2 ^ j : Int)) := Lib.hid (by rw [← hV, HT.out]; rfl)
      obtain ⟨P, hP⟩ : ∃ P, V % 2 = P := ⟨_, rfl⟩
      have hPt : V.tmod 2 = P := by rw [Int.tmod_eq_emod_of_nonneg hV0]; exact hP
      have hPc : P = 0 ∨ P = 1 := by omega
      obtain ⟨t0, ht0⟩ : ∃ t0, t0 = 2 * R + (if P = 1 then a else 0) := ⟨_, rfl⟩
      have HB : Hid (Sb a c V (2 * Q) t0) := Lib.hid (by rw [HV.out]; exact Sb.start HS.out b1 b2 b3 b5 b6 (by rw [← HV.out]; exact hP) ht0)
      have hd : decide (0 < T) = true := decide_eq_true (by omega)
      have n1 : ¬ T = 0 := by omega
      have n2 : (T == 0) = false := beq_false_of_ne n1
      have w1 : IntKind.i64.wrap V = V := wrap_id (by omega)
      have w2 : IntKind.i64.wrap P = P := wrap_id (by omega)
      have w3 : IntKind.i64.wrap (2 * Q) = 2 * Q := wrap_id (by omega)
      have w4 : IntKind.i64.wrap (2 * R) = 2 * R := wrap_id (by omega)
      have HHalf : Hid (T / 2 = btA j ∧ (0 ≤ T / 2 ∧ T / 2 < T) ∧ IntKind.i64.wrap (T / 2) = T / 2 ∧ T.tdiv 2 = T / 2) := Lib.hid ⟨by rw [HT.out]; exact btA_half j, by omega, wrap_id (by omega), Int.tdiv_eq_ediv_of_nonneg (by omega)⟩
      have w5 : P = 1 → IntKind.i64.wrap (2 * R + a) = t0 := fun h => by rw [ht0, if_pos h]; exact wrap_id (by omega)
      have w6 : P = 0 → 2 * R = t0 := fun h => by rw [ht0, if_neg (by omega)]; omega
      clear hT hlim hk hql hr1 hr2 hV0 hV1 ht0 hP
      have w7 : IntKind.i64.wrap t0 = t0 := wrap_id (by have := HB.out.lim b3; omega)
      rcases hPc with hp | hp
      · replace w5 := w6 hp
        clear w6
        subst hp
        go_wp2_with fail
        clear w5 w4 w3 w2 w1 n1 n2 hd hV hVt hPt
        obtain ⟨wq, rfl⟩ : ∃ W, W = w := ⟨w, rfl⟩
        go_loopw [7, 8] (fun q r wr => ∃ Q' R' : Int, q = .int .i64 Q' ∧ r = .int .i64 R' ∧ Sb a c V Q' R' ∧ wq = wr) (fun _ r _ => (intOf r).toNat)
        case atStart => exact ⟨_, _, rfl, rfl, HB.out, rfl⟩
        case round =>
          obtain ⟨Q', R', rfl, rfl, hB, rfl⟩ := hrel
          have hl := hB.lim b3
          have HB' := Lib.hid hB
          clear hB
          rcases Int.lt_or_le R' c with hlt | hge
          · have d1 : decide (c ≤ R') = false := decide_eq_false (by omega)
            have HL := Lib.hid hlt
            obtain ⟨h1, ⟨h2, h3⟩, h4, h5⟩ := HHalf.out
            obtain ⟨U, hU⟩ : ∃ U, T / 2 = U := ⟨_, rfl⟩
            rw [hU] at h1 h2 h3 h4 h5
            have HU : Hid (U = btA j) := h1
            have HM : Hid (0 ≤ U ∧ U < T) := ⟨h2, h3⟩
            clear hlt hl h1 h2 h3
            go_wp2_with fail
            go_roundw
            case rel => exact ⟨Q', R', U, j, rfl, rfl, rfl, by have := HJ.out; omega, HU.out, ⟨by rw [HB'.out.1, HV.out], HB'.out.2.1, HL.out⟩, trivial⟩
            case measure => have := HM.out; simp [intOf]; omega
          · have d1 : decide (c ≤ R') = true := decide_eq_true hge
            have HN := Lib.hid (HB'.out.next b3 hge)
            have w1 : IntKind.i64.wrap (R' - c) = R' - c := wrap_id (by omega)
            have w2 : IntKind.i64.wrap (Q' + 1) = Q' + 1 := wrap_id (by omega)
            have HM : Hid (0 ≤ R' - c ∧ R' - c < R') := ⟨by omega, by omega⟩
            clear hge hl
            go_wp2_with fail
            go_roundw
            case rel => exact ⟨Q' + 1, R' - c, rfl, rfl, HN.out, trivial⟩
            case measure => have := HM.out; simp [intOf]; omega
      · replace w5 := w5 hp
        clear w6 w7
        subst hp
        go_wp2_with fail
        clear w5 w4 w3 w2 w1 n1 n2 hd hV hVt hPt
        obtain ⟨wq, rfl⟩ : ∃ W, W = w := ⟨w, rfl⟩
        go_loopw [7, 8] (fun q r wr => ∃ Q' R' : Int, q = .int .i64 Q' ∧ r = .int .i64 R' ∧ Sb a c V Q' R' ∧ wq = wr) (fun _ r _ => (intOf r).toNat)
        case atStart => exact ⟨_, _, rfl, rfl, HB.out, rfl⟩
        case round =>
          obtain ⟨Q', R', rfl, rfl, hB, rfl⟩ := hrel
          have hl := hB.lim b3
          have HB' := Lib.hid hB
          clear hB
          rcases Int.lt_or_le R' c with hlt | hge
          · have d1 : decide (c ≤ R') = false := decide_eq_false (by omega)
            have HL := Lib.hid hlt
            obtain ⟨h1, ⟨h2, h3⟩, h4, h5⟩ := HHalf.out
            obtain ⟨U, hU⟩ : ∃ U, T / 2 = U := ⟨_, rfl⟩
            rw [hU] at h1 h2 h3 h4 h5
            have HU : Hid (U = btA j) := h1
            have HM : Hid (0 ≤ U ∧ U < T) := ⟨h2, h3⟩
            clear hlt hl h1 h2 h3
            go_wp2_with fail
            go_roundw
            case rel => exact ⟨Q', R', U, j, rfl, rfl, rfl, by have := HJ.out; omega, HU.out, ⟨by rw [HB'.out.1, HV.out], HB'.out.2.1, HL.out⟩, trivial⟩
            case measure => have := HM.out; simp [intOf]; omega
          · have d1 : decide (c ≤ R') = true := decide_eq_true hge
            have HN := Lib.hid (HB'.out.next b3 hge)
            have w1 : IntKind.i64.wrap (R' - c) = R' - c := wrap_id (by omega)
            have w2 : IntKind.i64.wrap (Q' + 1) = Q' + 1 := wrap_id (by omega)
            have HM : Hid (0 ≤ R' - c ∧ R' - c < R') := ⟨by omega, by omega⟩
            clear hge hl
            go_wp2_with fail
            go_roundw
            case rel => exact ⟨Q' + 1, R' - c, rfl, rfl, HN.out, trivial⟩
            case measure => have := HM.out; simp [intOf]; omega
#print axioms ref_Scale
end Go.Proofs.Ytkbnhmgladkojaa.Align
