/- Contracts of TakeInt of the program and of the reference. -/
import Derived.Test.YtahgkohnamnljaaDoorWireB
import Derived.Deep.CutRange
import Derived.Deep.DeepCutAuto
import Derived.Deep.RegionHeldLaw
import Derived.Deep.RegionWith
namespace Go.Proofs.YtahgkohnamnljaaDoor.Wire
open Go.ChangeShapes Go.WideShapes Go.RowKit
set_option linter.unusedVariables false
set_option maxRecDepth 100000

def TRes (t : TR) (w : World) (e : Ending) (w' : World) : Prop := e = .returned (.tuple #[.int .i64 t.x, .int .i64 (t.k : Int), .int .i64 t.e]) ∧ w = w'
theorem ret_tr {a b : TR} (h : a = b) : Ending.returned (.tuple #[.int .i64 a.x, .int .i64 (a.k : Int), .int .i64 a.e]) = .returned (.tuple #[.int .i64 b.x, .int .i64 (b.k : Int), .int .i64 b.e]) := by rw [h]
theorem low_7 : ∀ y : Fin 256, y.val &&& 127 = y.val % 128 := by decide +kernel
theorem andNot_128 (b : UInt8) : bits .andNot .u8 (b.toNat : Int) 128 = ((b.toNat % 128 : Nat) : Int) := by
  have hb := UInt8.toNat_lt b
  have h := u8_andNot_nat b.toNat 128 (by omega) (by omega)
  rw [show 255 - 128 = 127 from rfl, low_7 ⟨b.toNat, by omega⟩] at h
  exact h
theorem pow_seven (i : Nat) : 128 ^ i = 2 ^ (7 * i) := by rw [Nat.pow_mul]
theorem or_sum {acc y i : Nat} (ha : acc < 128 ^ i) (hs : acc + y * 128 ^ i < 18446744073709551616) : bits .or .u64 (acc : Int) ((y * 128 ^ i : Nat) : Int) = ((acc + y * 128 ^ i : Nat) : Int) := by
  rw [u64_or_nat _ _ (by omega) (by omega), Nat.or_comm, pow_seven, Nat.mul_comm y, ← Nat.two_pow_add_eq_or_of_lt (by rw [← pow_seven]; exact ha), Nat.add_comm]
theorem shl_or {acc k : Nat} {y : Int} (n : Nat) (hy : y = (n : Int)) (ha : acc < 128 ^ k) (hs : acc + n * 128 ^ k < 18446744073709551616) : bits .or .u64 (acc : Int) (IntKind.u64.wrap (y * 2 ^ (7 * k))) = ((acc + n * 128 ^ k : Nat) : Int) := by
  have e : y * 2 ^ (7 * k) = ((n * 128 ^ k : Nat) : Int) := by
    rw [hy, pow_seven]; simp
  have e2 : IntKind.u64.wrap ((n * 128 ^ k : Nat) : Int) = ((n * 128 ^ k : Nat) : Int) := by rw [IntKind.wrap_u64]; omega
  rw [e, e2, or_sum ha hs]
theorem sum_lt {acc k n : Nat} (hk : k < 9) (ha : acc < 128 ^ k) (hn : n < 128) : acc + n * 128 ^ k < 128 ^ (k + 1) ∧ acc + n * 128 ^ k < 18446744073709551616 := by
  have hp : 128 ^ (k + 1) = 128 * 128 ^ k := by rw [Nat.pow_succ, Nat.mul_comm]
  have h1 : n * 128 ^ k ≤ 127 * 128 ^ k := Nat.mul_le_mul_right _ (by omega)
  have h2 := pow_le_nine (i := k + 1) (by omega)
  constructor <;> omega
theorem sum_nine {acc n : Nat} (ha : acc < 128 ^ 9) (hn : n ≤ 1) : acc + n * 128 ^ 9 < 18446744073709551616 := by
  have h2 := pow_le_nine (i := 9) (by omega)
  rcases Nat.le_one_iff_eq_zero_or_eq_one.mp hn with rfl | rfl <;> omega
/-- The rounds of TakeInt: what has been read of l. -/
def Tk (l : List UInt8) (c i : Value) : Prop :=
  ∃ k acc : Nat, c = .int .u64 (acc : Int) ∧ i = .int .i64 (k : Int) ∧ k ≤ l.length ∧ k ≤ 9 ∧ acc < 128 ^ k ∧ takeI l = scan k acc (l.drop k)
set_option maxHeartbeats 1600000 in
theorem wire_TakeInt (v : Value) (l : List UInt8) (w : World) (hv : InY w v l) (hl : l.length ≤ 1000000) :
    Calls Tryd.prog 24 #[v] w (TRes (takeI l) w) := by
  obtain ⟨A, c, rfl, hc, _, hb⟩ := hv
  have HB := Lib.hid hb
  obtain ⟨N, hN⟩ : ∃ N, N = l.length := ⟨_, rfl⟩
  have HN := Lib.hid hN
  rw [← hN] at hl ⊢
  clear hb hN
  go_enter Tryd.func24, Tryd.ntmps24
  go_wp2_with fail
  go_loop [5, 10] (Tk l) (fun _ i => N - (intOf i).toNat)
  case atStart => exact ⟨0, 0, rfl, rfl, Nat.zero_le _, by omega, by decide, by rw [List.drop_zero]; rfl⟩
  case round =>
    obtain ⟨k, acc, rfl, rfl, hk, hk9, ha, ht⟩ := hrel
    have HT := Lib.hid ht
    have HK := Lib.hid ha
    rw [← HN.out] at hk
    clear ht ha
    rcases Nat.lt_or_ge k N with hlt | hge
    · obtain ⟨b, hb⟩ := get_lt (L := l) (k := k) (by rw [← HN.out]; exact hlt)
      obtain ⟨g, off, rfl, hg, hcell⟩ := HB.out k b hb
      have HD := Lib.hid (drop_cons_of hb)
      have hb8 := UInt8.toNat_lt b
      obtain ⟨y, hy⟩ : ∃ y, y = ((b.toNat % 128 : Nat) : Int) := ⟨_, rfl⟩
      have han : bits .andNot .u8 (b.toNat : Int) 128 = y := by rw [hy]; exact andNot_128 b
      have hy0 : 0 ≤ y := by omega
      have hy1 : y < 128 := by omega
      clear hb
      rcases Nat.lt_or_ge k 9 with c9 | c9
      · rcases Nat.lt_or_ge b.toNat 128 with c1 | c1
        · by_cases c0 : b.toNat = 0
          · rcases Nat.eq_zero_or_pos k with c2 | c2
            · have h9 : ((k : Int) == 9) = false := by simp; omega
              have hR : acc + b.toNat % 128 * 128 ^ k < 18446744073709551616 := (sum_lt (by omega) HK.out (by omega)).2
              have hor := shl_or (b.toNat % 128) hy HK.out hR
              obtain ⟨R, hRe⟩ : ∃ R, R = acc + b.toNat % 128 * 128 ^ k := ⟨_, rfl⟩
              have hge : decide ((128 : Int) ≤ (b.toNat : Int)) = false := decide_eq_false (by omega)
              have h0 : ((b.toNat : Int) == 0) = true := by simp; omega
              have hk0 : decide (0 < k) = false := decide_eq_false (by omega)
              have HF : Hid (takeI l = ⟨decI R, k + 1, 0⟩) := show _ = _ by rw [HT.out, HD.out, scan_last (by omega) (by omega) (by omega), hRe, show b.toNat % 128 = b.toNat by omega]
              rw [← hRe] at hor hR
              clear hy hRe c9 c1 c0 c2
              go_wp2_with fail
              refine (wire_decoded R _ hR).mono ?_
              rintro e w1 ⟨rfl, rfl⟩
              go_wp2_with fail
              go_ret3
              exact ⟨by rw [HF.out]; rfl, rfl⟩
            · have h9 : ((k : Int) == 9) = false := by simp; omega
              have hR : acc + b.toNat % 128 * 128 ^ k < 18446744073709551616 := (sum_lt (by omega) HK.out (by omega)).2
              have hor := shl_or (b.toNat % 128) hy HK.out hR
              obtain ⟨R, hRe⟩ : ∃ R, R = acc + b.toNat % 128 * 128 ^ k := ⟨_, rfl⟩
              have hge : decide ((128 : Int) ≤ (b.toNat : Int)) = false := decide_eq_false (by omega)
              have h0 : ((b.toNat : Int) == 0) = true := by simp; omega
              have hk0 : 0 < k := by omega
              have HF : Hid (takeI l = ⟨0, 0, 3⟩) := show _ = _ by rw [HT.out, HD.out, scan_form (by omega) (by omega)]
              rw [← hRe] at hor hR
              clear hy hRe c9 c1 c0 c2
              go_wp2_with fail
              go_ret3
              exact ⟨by rw [HF.out]; rfl, rfl⟩
          · have h9 : ((k : Int) == 9) = false := by simp; omega
            have hR : acc + b.toNat % 128 * 128 ^ k < 18446744073709551616 := (sum_lt (by omega) HK.out (by omega)).2
            have hor := shl_or (b.toNat % 128) hy HK.out hR
            obtain ⟨R, hRe⟩ : ∃ R, R = acc + b.toNat % 128 * 128 ^ k := ⟨_, rfl⟩
            have hge : decide ((128 : Int) ≤ (b.toNat : Int)) = false := decide_eq_false (by omega)
            have h0 : ((b.toNat : Int) == 0) = false := by simp; omega
            have HF : Hid (takeI l = ⟨decI R, k + 1, 0⟩) := show _ = _ by rw [HT.out, HD.out, scan_last (by omega) (by omega) (by omega), hRe, show b.toNat % 128 = b.toNat by omega]
            rw [← hRe] at hor hR
            clear hy hRe c9 c1 c0
            go_wp2_with fail
            refine (wire_decoded R _ hR).mono ?_
            rintro e w1 ⟨rfl, rfl⟩
            go_wp2_with fail
            go_ret3
            exact ⟨by rw [HF.out]; rfl, rfl⟩
        · have h9 : ((k : Int) == 9) = false := by simp; omega
          have hR : acc + b.toNat % 128 * 128 ^ k < 18446744073709551616 := (sum_lt (by omega) HK.out (by omega)).2
          have hor := shl_or (b.toNat % 128) hy HK.out hR
          have HM := Lib.hid (scan_more (acc := acc) (r := l.drop (k + 1)) (show k < 9 by omega) (show 128 ≤ b.toNat by omega))
          have HRL := Lib.hid (sum_lt (n := b.toNat % 128) (show k < 9 by omega) HK.out (by omega)).1
          obtain ⟨R, hRe⟩ : ∃ R, R = acc + b.toNat % 128 * 128 ^ k := ⟨_, rfl⟩
          have K9 := Lib.hid (show k + 1 ≤ 9 by omega)
          have hge : (128 : Int) ≤ (b.toNat : Int) := by omega
          rw [← hRe] at hor hR HM HRL
          clear hy hRe c9 c1
          go_wp2_with fail
          go_round
          case rel => exact ⟨k + 1, R, rfl, by go_num, by rw [← HN.out]; omega, K9.out, HRL.out, by rw [HT.out, HD.out, HM.out]⟩
          case measure => simp [intOf]; omega
      · rcases Nat.lt_or_ge 1 b.toNat with c1 | c1
        · have h9 : ((k : Int) == 9) = true := by simp; omega
          have hb1 : (1 : Int) < (b.toNat : Int) := by omega
          have HF : Hid (takeI l = ⟨0, 0, 2⟩) := show _ = _ by rw [HT.out, HD.out, scan_over (by omega) (by omega)]
          clear han hy0 hy1 hy c9 c1
          go_wp2_with fail
          go_ret3
          exact ⟨by rw [HF.out]; rfl, rfl⟩
        · by_cases c0 : b.toNat = 0
          · have h9 : ((k : Int) == 9) = true := by simp; omega
            have hb1 : decide ((1 : Int) < (b.toNat : Int)) = false := decide_eq_false (by omega)
            have hR : acc + b.toNat % 128 * 128 ^ k < 18446744073709551616 := (by have e9 : k = 9 := (by omega); subst e9; exact sum_nine HK.out (by omega))
            have hor := shl_or (b.toNat % 128) hy HK.out hR
            obtain ⟨R, hRe⟩ : ∃ R, R = acc + b.toNat % 128 * 128 ^ k := ⟨_, rfl⟩
            have hge : decide ((128 : Int) ≤ (b.toNat : Int)) = false := decide_eq_false (by omega)
            have h0 : ((b.toNat : Int) == 0) = true := by simp; omega
            have hk0 : 0 < k := by omega
            have HF : Hid (takeI l = ⟨0, 0, 3⟩) := show _ = _ by rw [HT.out, HD.out, scan_form (by omega) (by omega)]
            rw [← hRe] at hor hR
            clear hy hRe c9 c1 c0
            go_wp2_with fail
            go_ret3
            exact ⟨by rw [HF.out]; rfl, rfl⟩
          · have h9 : ((k : Int) == 9) = true := by simp; omega
            have hb1 : decide ((1 : Int) < (b.toNat : Int)) = false := decide_eq_false (by omega)
            have hR : acc + b.toNat % 128 * 128 ^ k < 18446744073709551616 := (by have e9 : k = 9 := (by omega); subst e9; exact sum_nine HK.out (by omega))
            have hor := shl_or (b.toNat % 128) hy HK.out hR
            obtain ⟨R, hRe⟩ : ∃ R, R = acc + b.toNat % 128 * 128 ^ k := ⟨_, rfl⟩
            have hge : decide ((128 : Int) ≤ (b.toNat : Int)) = false := decide_eq_false (by omega)
            have h0 : ((b.toNat : Int) == 0) = false := by simp; omega
            have HF : Hid (takeI l = ⟨decI R, k + 1, 0⟩) := show _ = _ by rw [HT.out, HD.out, scan_last (by omega) (by omega) (by omega), hRe, show b.toNat % 128 = b.toNat by omega]
            rw [← hRe] at hor hR
            clear hy hRe c9 c1 c0
            go_wp2_with fail
            refine (wire_decoded R _ hR).mono ?_
            rintro e w1 ⟨rfl, rfl⟩
            go_wp2_with fail
            go_ret3
            exact ⟨by rw [HF.out]; rfl, rfl⟩
    · obtain rfl : k = N := by omega
      have HF : Hid (takeI l = ⟨0, 0, 4⟩) := show _ = _ by rw [HT.out, List.drop_eq_nil_of_le (by rw [← HN.out]; exact Nat.le_refl _)]; rfl
      go_wp2_with fail
      go_ret3
      exact ⟨by rw [HF.out]; rfl, rfl⟩
#print axioms wire_TakeInt
end Go.Proofs.YtahgkohnamnljaaDoor.Wire
