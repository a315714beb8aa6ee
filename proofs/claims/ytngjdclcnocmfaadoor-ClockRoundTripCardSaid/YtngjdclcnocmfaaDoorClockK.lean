/- Contracts of digits and Format of the reference. -/
import Derived.Test.YtngjdclcnocmfaaDoorClockJ
namespace Go.Proofs.YtngjdclcnocmfaaDoor.Clock
open Go.ChangeShapes Go.WideShapes Go.RowKit
set_option linter.unusedVariables false
set_option maxRecDepth 100000

/-- The digits of n, at least k of them. -/
def digR (n k : Nat) : List UInt8 := if h : n = 0 ∧ k = 0 then [] else digR (n / 10) (k - 1) ++ [UInt8.ofNat (48 + n % 10)]
termination_by n + k
decreasing_by omega
theorem digR_zero : digR 0 0 = [] := by rw [digR, dif_pos ⟨rfl, rfl⟩]
theorem digR_more {n k : Nat} (h : ¬ (n = 0 ∧ k = 0)) : digR n k = digR (n / 10) (k - 1) ++ [UInt8.ofNat (48 + n % 10)] := by rw [digR, dif_neg h]
theorem digR_pos (n : Nat) : 0 < n → digR n 0 = Lib.decDigits n := by
  induction n using Nat.strongRecOn with
  | ind n ih =>
    intro hn
    rw [digR_more (by omega)]
    by_cases h : n < 10
    · rw [Lib.decDigits_one h, show n / 10 = 0 by omega, show (0 : Nat) - 1 = 0 from rfl, digR_zero, show n % 10 = n by omega]; rfl
    · rw [Lib.decDigits, dif_neg h, ← ih (n / 10) (by omega) (by omega)]
theorem digR_one (n : Nat) : digR n 1 = Lib.decDigits n := by
  rw [digR_more (by omega)]
  by_cases h : n < 10
  · rw [Lib.decDigits_one h, show n / 10 = 0 by omega, show (1 : Nat) - 1 = 0 from rfl, digR_zero, show n % 10 = n by omega]; rfl
  · rw [Lib.decDigits, dif_neg h, ← digR_pos (n / 10) (by omega)]
theorem digR_two {n : Nat} (h : n < 100) : digR n 2 = two n := by
  rw [digR_more (by omega), digR_more (by omega), show n / 10 / 10 = 0 by omega, show 2 - 1 - 1 = 0 from rfl, digR_zero, show n / 10 % 10 = n / 10 by omega]; rfl
def tenS : ByteArray := ⟨#[48, 49, 50, 51, 52, 53, 54, 55, 56, 57]⟩
theorem ten_fin : ∀ r : Fin 10, (ByteArray.extract ⟨#[48, 49, 50, 51, 52, 53, 54, 55, 56, 57]⟩ r.val (r.val + 1)).data.toList = (oneS r.val).data.toList := by decide +kernel
theorem ten_at {r : Nat} (h : r < 10) : ByteArray.extract ⟨#[48, 49, 50, 51, 52, 53, 54, 55, 56, 57]⟩ r (r + 1) = oneS r := by
  have := ten_fin ⟨r, h⟩
  exact ByteArray.ext (Array.toList_inj.mp this)
def strL (L : List UInt8) : ByteArray := ⟨L.toArray⟩
theorem strL_size (L : List UInt8) : (strL L).size = L.length := by simp [strL, ByteArray.size]
theorem one_strL (r : Nat) (L : List UInt8) : oneS r ++ strL L = strL (UInt8.ofNat (48 + r) :: L) := by
  unfold oneS strL
  rw [show (#[UInt8.ofNat (48 + r)] : Array UInt8) = [UInt8.ofNat (48 + r)].toArray from rfl, ByteArray.mk_append_mk]; rfl

set_option maxHeartbeats 1600000 in
theorem ref_digits (n k : Nat) (hn : n ≤ 2147483647) (hk : k ≤ 2) (hT : (digR n k).length ≤ 20) (w : World) : Calls Tryd.prog 33 #[.int .i64 (n : Int), .int .i64 (k : Int)] w fun e w' => e = .returned (.string (strL (digR n k))) ∧ w = w' := by
  go_enter Tryd.func33, Tryd.ntmps33
  go_wp2_with fail
  go_loopw [5, 0, 6] (fun s x i wr => ∃ (m j : Nat) (L : List UInt8), m ≤ 2147483647 ∧ s = .string (strL L) ∧ x = .int .i64 (m : Int) ∧ i = .int .i64 (j : Int) ∧ w = wr ∧ digR n k = digR m (k - j) ++ L ∧ L.length = j) (fun s x i _ => (intOf x).toNat + (k - (intOf i).toNat))
  case atStart => exact ⟨n, 0, [], hn, rfl, rfl, rfl, rfl, by simp, rfl⟩
  case round =>
    obtain ⟨m, j, L, hm, rfl, rfl, rfl, rfl, hd, hl⟩ := hrel
    have HD := Lib.hid hd
    clear hd
    by_cases c1 : j < k
    · have i1 : (j : Int) < (k : Int) := by omega
      have hst := digR_more (n := m) (k := k - j) (by omega)
      obtain ⟨r, hr⟩ : ∃ r, r = m % 10 := ⟨_, rfl⟩
      obtain ⟨p, hp⟩ : ∃ p, p = m / 10 := ⟨_, rfl⟩
      have er : (m : Int) % 10 = (r : Int) := by omega
      have ep : (m : Int) / 10 = (p : Int) := by omega
      have r9 : (r : Int) + 1 ≤ 10 := by omega
      have r0 : (0 : Int) ≤ (r : Int) := by omega
      have r1 : (r : Int) ≤ (r : Int) + 1 := by omega
      have et := ten_at (r := r) (by omega)
      rw [← hr, ← hp] at hst
      have hlen := congrArg List.length HD.out
      rw [List.length_append] at hlen
      have hj : j ≤ 20 := by omega
      have hcat : ∀ W : World, (Op.stringOp .add (oneS r) (strL L)).run Tryd.prog W = .ok (.string (strL (UInt8.ofNat (48 + r) :: L))) W := fun W => by
        rw [run_string_add_sum W _ _ (by rw [oneS_size, strL_size]; omega), one_strL]
      have HST := Lib.hid hst
      have HR := Lib.hid hr
      have HP := Lib.hid hp
      clear hst hr hp hlen
      go_wp2_with fail
      go_roundw
      case rel =>
        refine ⟨p, j + 1, _, by have := HP.out; omega, rfl, rfl, by go_num, trivial, ?_, by simp; omega⟩
        rw [HD.out, HST.out, show k - (j + 1) = k - j - 1 by omega]; simp
      case measure => simp [intOf]; have := HP.out; omega
    · have i1 : decide ((j : Int) < (k : Int)) = false := decide_eq_false (by omega)
      rcases Nat.eq_zero_or_pos m with h0 | h0
      · subst h0
        have e : digR 0 (k - j) = [] := by rw [show k - j = 0 by omega, digR_zero]
        have HE := Lib.hid e
        clear e
        go_wp2_with fail
        go_ret
        exact ⟨by rw [HD.out, HE.out]; rfl, rfl⟩
      · have i2 : (0 : Int) < (m : Int) := by omega
        have hst := digR_more (n := m) (k := k - j) (by omega)
        obtain ⟨r, hr⟩ : ∃ r, r = m % 10 := ⟨_, rfl⟩
        obtain ⟨p, hp⟩ : ∃ p, p = m / 10 := ⟨_, rfl⟩
        have er : (m : Int) % 10 = (r : Int) := by omega
        have ep : (m : Int) / 10 = (p : Int) := by omega
        have r9 : (r : Int) + 1 ≤ 10 := by omega
        have r0 : (0 : Int) ≤ (r : Int) := by omega
        have r1 : (r : Int) ≤ (r : Int) + 1 := by omega
        have et := ten_at (r := r) (by omega)
        rw [← hr, ← hp] at hst
        have hlen := congrArg List.length HD.out
        rw [List.length_append] at hlen
        have hj : j ≤ 20 := by omega
        have hcat : ∀ W : World, (Op.stringOp .add (oneS r) (strL L)).run Tryd.prog W = .ok (.string (strL (UInt8.ofNat (48 + r) :: L))) W := fun W => by
          rw [run_string_add_sum W _ _ (by rw [oneS_size, strL_size]; omega), one_strL]
        have HST := Lib.hid hst
        have HR := Lib.hid hr
        have HP := Lib.hid hp
        clear hst hr hp hlen
        go_wp2_with fail
        go_roundw
        case rel =>
          refine ⟨p, j + 1, _, by have := HP.out; omega, rfl, rfl, by go_num, trivial, ?_, by simp; omega⟩
          rw [HD.out, HST.out, show k - (j + 1) = k - j - 1 by omega]; simp
        case measure => simp [intOf]; have := HP.out; omega
theorem ref_day (d : Nat) (hd : d < 100000) (w : World) : Calls Tryd.prog 33 #[.int .i64 (d : Int), .int .i64 1] w fun e w' => e = .returned (.string (decS d)) ∧ w = w' := by
  have h := ref_digits d 1 (by omega) (by omega) (by rw [digR_one]; have := dec5 hd; omega) w
  rw [digR_one] at h
  exact h
theorem ref_two (n : Nat) (hn : n < 100) (w : World) : Calls Tryd.prog 33 #[.int .i64 (n : Int), .int .i64 2] w fun e w' => e = .returned (.string (twoS n)) ∧ w = w' := by
  have h := ref_digits n 2 (by omega) (by omega) (by rw [digR_two hn, two_length]; omega) w
  rw [digR_two hn] at h
  exact h

set_option maxHeartbeats 1600000 in
theorem ref_Format (t : Int) (w : World) : Calls Tryd.prog 15 #[.int .i64 t] w fun e w' => e = .returned (.tuple #[.string (fmtS t), .int .i64 (rngE t)]) ∧ w = w' := by
  cases h : mom t with
  | false =>
    have H := Lib.hid h
    clear h
    go_enter Tryd.func15, Tryd.ntmps15
    go_wp2_with fail
    refine (ref_moment _ w).mono ?_
    rintro e w' ⟨rfl, rfl⟩
    rw [H.out]
    go_wp2_with fail
    go_ret2
    exact ⟨by rw [fmtS_no H.out, rngE_no H.out]; rfl, rfl⟩
  | true =>
    have H := Lib.hid h
    obtain ⟨n, rfl, hn⟩ := mom_nat h
    have hfe := fmt_eq n hn
    obtain ⟨d, hd⟩ : ∃ d, d = n / 86400 := ⟨_, rfl⟩
    obtain ⟨hh, hhh⟩ : ∃ hh, hh = n % 86400 / 3600 := ⟨_, rfl⟩
    obtain ⟨m, hm⟩ : ∃ m, m = n % 3600 / 60 := ⟨_, rfl⟩
    obtain ⟨s, hs⟩ : ∃ s, s = n % 60 := ⟨_, rfl⟩
    obtain ⟨x, hx⟩ : ∃ x, x = n % 86400 := ⟨_, rfl⟩
    obtain ⟨c, hc⟩ : ∃ c, c = x / 60 := ⟨_, rfl⟩
    rw [← hd, ← hhh, ← hm, ← hs] at hfe
    have HFE := Lib.hid hfe
    have HD := Lib.hid (ref_day d (by omega))
    have HH := Lib.hid (ref_two hh (by omega))
    have HM := Lib.hid (ref_two m (by omega))
    have HS := Lib.hid (ref_two s (by omega))
    have e0 : (n : Int) % 86400 = (x : Int) := by omega
    have e1 : (n : Int) / 86400 = (d : Int) := by omega
    have e2 : (x : Int) / 3600 = (hh : Int) := by omega
    have e3 : (x : Int) / 60 = (c : Int) := by omega
    have e4 : (c : Int) % 60 = (m : Int) := by omega
    have e5 : (x : Int) % 60 = (s : Int) := by omega
    have zz : (decS d).size = 0 ∨ (decS d).size = 1 ∨ (decS d).size = 2 ∨ (decS d).size = 3 ∨ (decS d).size = 4 ∨ (decS d).size = 5 := by have := decS_size (q := d) (by omega); omega
    have z1 := twoS_size hh
    have z2 := twoS_size m
    have z3 := twoS_size s
    clear h hfe hd hhh hm hs hx hc
    rcases zz with z0 | z0 | z0 | z0 | z0 | z0
    all_goals
      go_enter Tryd.func15, Tryd.ntmps15
      go_wp2_with fail
      refine (ref_moment _ w).mono ?_
      rintro e w' ⟨rfl, rfl⟩
      rw [H.out]
      go_wp2_with fail
      refine (HD.out _).mono ?_
      rintro e w' ⟨rfl, rfl⟩
      go_wp2_with fail
      refine (HH.out _).mono ?_
      rintro e w' ⟨rfl, rfl⟩
      go_wp2_with fail
      refine (HM.out _).mono ?_
      rintro e w' ⟨rfl, rfl⟩
      go_wp2_with fail
      refine (HS.out _).mono ?_
      rintro e w' ⟨rfl, rfl⟩
      go_wp2_with fail
      go_ret2
      exact ⟨by rw [rngE_yes H.out, ← HFE.out]; rfl, rfl⟩
#print axioms ref_Format
#print axioms ref_digits
end Go.Proofs.YtngjdclcnocmfaaDoor.Clock
