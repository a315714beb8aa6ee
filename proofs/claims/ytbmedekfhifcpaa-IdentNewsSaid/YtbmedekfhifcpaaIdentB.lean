/- Contracts of ident.Valid, and of Valid of the reference, with what they call. -/
import Derived.Test.YtbmedekfhifcpaaIdentA
namespace Go.Proofs.Ytbmedekfhifcpaa.Ident
open Go.ChangeShapes Go.WideShapes Go.RowKit
set_option linter.unusedVariables false
set_option maxRecDepth 100000

theorem ret_bool {a b : Bool} (h : a = b) : Ending.returned (.bool a) = .returned (.bool b) := by rw [h]
theorem ret_int {k : IntKind} {a b : Int} (h : a = b) : Ending.returned (.int k a) = .returned (.int k b) := by rw [h]
theorem no_let {n : Int} (h : letN n = false) : ¬ ((65 ≤ n ∧ n ≤ 90) ∨ (97 ≤ n ∧ n ≤ 122)) := fun e => by rw [letN_iff.mpr e] at h; cases h
theorem no_per {n : Int} (h : perN n = false) : ¬ ((65 ≤ n ∧ n ≤ 90) ∨ (97 ≤ n ∧ n ≤ 122) ∨ (48 ≤ n ∧ n ≤ 57) ∨ n = 45 ∨ n = 95 ∨ n = 46) := fun e => by rw [perN_iff.mpr e] at h; cases h
theorem ident_isLetter (n : Int) (w : World) : Calls Try.prog 27 #[.int .u8 n] w fun e w' => e = .returned (.bool (letN n)) ∧ w = w' := by
  go_enter Try.func27, Try.ntmps27
  go_wp2_with fail
  all_goals
    go_ret
    refine ⟨ret_bool ?_, rfl⟩
    rw [Bool.eq_iff_iff, letN_iff]
    simp
    omega
theorem ref_letter (n : Int) (w : World) : Calls Try.prog 29 #[.int .u8 n] w fun e w' => e = .returned (.bool (letN n)) ∧ w = w' := by
  go_enter Try.func29, Try.ntmps29
  go_wp2_with fail
  all_goals
    go_ret
    refine ⟨ret_bool ?_, rfl⟩
    rw [Bool.eq_iff_iff, letN_iff]
    simp
    omega
/-- A contract at the value that is known. -/
theorem letter_is {n : Int} {l : Bool} (h : letN n = l) (w : World) : Calls Try.prog 27 #[.int .u8 n] w fun e w' => e = .returned (.bool l) ∧ w = w' := h ▸ ident_isLetter n w
theorem rletter_is {n : Int} {l : Bool} (h : letN n = l) (w : World) : Calls Try.prog 29 #[.int .u8 n] w fun e w' => e = .returned (.bool l) ∧ w = w' := h ▸ ref_letter n w

theorem ident_isPermitted (n : Int) (w : World) : Calls Try.prog 28 #[.int .u8 n] w fun e w' => e = .returned (.bool (perN n)) ∧ w = w' := by
  cases hl : letN n with
  | true =>
    have HP := Lib.hid (letN_per hl)
    have HC := letter_is hl w
    clear hl
    go_enter Try.func28, Try.ntmps28
    go_wp2_with fail
    refine HC.mono ?_
    rintro e w' ⟨rfl, rfl⟩
    go_wp2_with fail
    go_ret
    exact ⟨ret_bool HP.out.symm, rfl⟩
  | false =>
    have HP := Lib.hid (no_let hl)
    have HC := letter_is hl w
    clear hl
    go_enter Try.func28, Try.ntmps28
    go_wp2_with fail
    refine HC.mono ?_
    rintro e w' ⟨rfl, rfl⟩
    go_wp2_with fail
    all_goals
      go_ret
      refine ⟨ret_bool ?_, rfl⟩
      have hp := HP.out
      rw [Bool.eq_iff_iff, perN_iff]
      simp
      try omega
theorem permitted_is {n : Int} {l : Bool} (h : perN n = l) (w : World) : Calls Try.prog 28 #[.int .u8 n] w fun e w' => e = .returned (.bool l) ∧ w = w' := h ▸ ident_isPermitted n w

/-! ### Valid -/
set_option maxHeartbeats 800000 in
theorem ident_Valid (s : ByteArray) (w : World) (hm : s.size ≤ 9223372036854775807) : Calls Try.prog 10 #[.string s] w fun e w' => e = .returned (.bool (validB s)) ∧ w = w' := by
  have HL := Lib.hid (str_len s)
  rcases Nat.eq_zero_or_pos s.size with h0 | hp
  · have hz : s.size = 0 := h0
    have HV : Hid (validB s = false) := by
      have e : s.data.toList = [] := List.eq_nil_of_length_eq_zero (by have := HL.out; omega)
      show okB s.data.toList = false
      rw [e]; rfl
    have hi : ((s.size : Nat) : Int) = 0 := by omega
    clear h0
    go_enter Try.func10, Try.ntmps10
    go_wp2_with fail
    go_ret
    exact ⟨ret_bool HV.out.symm, rfl⟩
  · by_cases hl : 32 < s.size
    · have HV := Lib.hid (show validB s = false from okB_long (by have := HL.out; omega))
      have hi : (((s.size : Nat) : Int) == 0) = false := by simpa using (show ¬ ((s.size : Nat) : Int) = 0 by omega)
      have hi2 : (32 : Int) < ((s.size : Nat) : Int) := by omega
      clear hl
      go_enter Try.func10, Try.ntmps10
      go_wp2_with fail
      go_ret
      exact ⟨ret_bool HV.out.symm, rfl⟩
    · have HG := Lib.hid (str_get? s hp)
      have hi : (((s.size : Nat) : Int) == 0) = false := by simpa using (show ¬ ((s.size : Nat) : Int) = 0 by omega)
      have hi2 : decide ((32 : Int) < ((s.size : Nat) : Int)) = false := decide_eq_false (by omega)
      cases hf : letN (byt s[0]) with
      | false =>
        have HV := Lib.hid (show validB s = false from okB_first HG.out hf)
        have HC := letter_is hf w
        unfold byt at HC
        clear hf hl
        go_enter Try.func10, Try.ntmps10
        go_wp2_with fail
        refine HC.mono ?_
        rintro e w' ⟨rfl, rfl⟩
        go_wp2_with fail
        go_ret
        exact ⟨ret_bool HV.out.symm, rfl⟩
      | true =>
        have HF := Lib.hid hf
        have HC := letter_is hf w
        unfold byt at HC
        have HLL := Lib.hid hl
        clear hf hl
        go_enter Try.func10, Try.ntmps10
        go_wp2_with fail
        refine HC.mono ?_
        rintro e w' ⟨rfl, rfl⟩
        go_wp2_with fail
        go_loop [20] (fun i => ∃ k : Nat, k ≤ s.size ∧ i = .int .i64 k ∧ (∀ j b, j < k → s.data.toList[j]? = some b → perB b = true)) (fun i => s.size - (intOf i).toNat)
        case atStart => exact ⟨0, Nat.zero_le _, rfl, fun j b h => absurd h (by omega)⟩
        case round =>
          obtain ⟨k, hk, rfl, hv⟩ := hrel
          have HA := Lib.hid hv
          clear hv
          rcases Nat.lt_or_ge k s.size with hlt | hge
          · have HS := Lib.hid (str_get? s hlt)
            cases hb : perN (byt s[k]) with
            | false =>
              have HV := Lib.hid (show validB s = false from okB_at HS.out hb)
              have HC := permitted_is hb w
              unfold byt at HC
              clear hb
              go_wp2_with fail
              refine HC.mono ?_
              rintro e w' ⟨rfl, rfl⟩
              go_wp2_with fail
              go_ret
              exact ⟨ret_bool HV.out.symm, rfl⟩
            | true =>
              have HB := Lib.hid hb
              have HC := permitted_is hb w
              unfold byt at HC
              clear hb
              go_wp2_with fail
              refine HC.mono ?_
              rintro e w' ⟨rfl, rfl⟩
              go_wp2_with fail
              go_round
              case rel =>
                refine ⟨k + 1, by omega, by go_num, fun j b hj hb => ?_⟩
                rcases Nat.lt_or_eq_of_le (Nat.le_of_lt_succ hj) with h | h
                · exact HA.out j b h hb
                · subst h
                  have e := HS.out
                  rw [hb] at e; cases e; exact HB.out
              case measure => simp [intOf]; omega
          · obtain rfl : k = s.size := by omega
            have HV : Hid (validB s = true) := okB_yes HG.out HF.out (List.all_eq_true.mpr fun b hb => by
              obtain ⟨j, hj⟩ := List.mem_iff_getElem?.mp hb
              exact HA.out j b (by have := HL.out; have := (List.getElem?_eq_some_iff.mp hj).1; omega) hj) (by have := HL.out; have := HLL.out; omega)
            go_wp2_with fail
            go_ret
            exact ⟨ret_bool HV.out.symm, rfl⟩
theorem valid_is {s : ByteArray} {b : Bool} (h : validB s = b) (hm : s.size ≤ 9223372036854775807) (w : World) : Calls Try.prog 10 #[.string s] w fun e w' => e = .returned (.bool b) ∧ w = w' := h ▸ ident_Valid s w hm

set_option maxHeartbeats 1600000 in
theorem ref_Valid (s : ByteArray) (w : World) (hm : s.size ≤ 9223372036854775807) : Calls Try.prog 11 #[.string s] w fun e w' => e = .returned (.bool (validB s)) ∧ w = w' := by
  have HL := Lib.hid (str_len s)
  rcases Nat.eq_zero_or_pos s.size with h0 | hp
  · have hz : s.size = 0 := h0
    have HV : Hid (validB s = false) := by
      have e : s.data.toList = [] := List.eq_nil_of_length_eq_zero (by have := HL.out; omega)
      show okB s.data.toList = false
      rw [e]; rfl
    have hi : ((s.size : Nat) : Int) < 1 := by omega
    clear h0
    go_enter Try.func11, Try.ntmps11
    go_wp2_with fail
    go_ret
    exact ⟨ret_bool HV.out.symm, rfl⟩
  · have hi : decide (((s.size : Nat) : Int) < 1) = false := decide_eq_false (by omega)
    by_cases hl : 32 < s.size
    · have HV := Lib.hid (show validB s = false from okB_long (by have := HL.out; omega))
      have hi2 : (32 : Int) < ((s.size : Nat) : Int) := by omega
      clear hl
      go_enter Try.func11, Try.ntmps11
      go_wp2_with fail
      go_ret
      exact ⟨ret_bool HV.out.symm, rfl⟩
    · have HG := Lib.hid (str_get? s hp)
      have hi2 : decide ((32 : Int) < ((s.size : Nat) : Int)) = false := decide_eq_false (by omega)
      cases hf : letN (byt s[0]) with
      | false =>
        have HV := Lib.hid (show validB s = false from okB_first HG.out hf)
        have HC := rletter_is hf w
        unfold byt at HC
        clear hf hl
        go_enter Try.func11, Try.ntmps11
        go_wp2_with fail
        refine HC.mono ?_
        rintro e w' ⟨rfl, rfl⟩
        go_wp2_with fail
        go_ret
        exact ⟨ret_bool HV.out.symm, rfl⟩
      | true =>
        have HF := Lib.hid hf
        have HC := rletter_is hf w
        unfold byt at HC
        have HLL := Lib.hid hl
        clear hf hl
        go_enter Try.func11, Try.ntmps11
        go_wp2_with fail
        refine HC.mono ?_
        rintro e w' ⟨rfl, rfl⟩
        go_wp2_with fail
        go_loop [3] (fun i => ∃ k : Nat, k ≤ s.size ∧ i = .int .i64 k ∧ (∀ j b, j < k → s.data.toList[j]? = some b → perB b = true)) (fun i => s.size - (intOf i).toNat)
        case atStart => exact ⟨0, Nat.zero_le _, rfl, fun j b h => absurd h (by omega)⟩
        case round =>
          obtain ⟨k, hk, rfl, hv⟩ := hrel
          have HA := Lib.hid hv
          clear hv
          rcases Nat.lt_or_ge k s.size with hlt | hge
          · have HS := Lib.hid (str_get? s hlt)
            have step : perN (byt s[k]) = true → ∀ j b, j < k + 1 → s.data.toList[j]? = some b → perB b = true := fun hp j b hj hb => by
              rcases Nat.lt_or_eq_of_le (Nat.le_of_lt_succ hj) with h | h
              · exact HA.out j b h hb
              · subst h
                have e := HS.out
                rw [hb] at e; cases e; exact hp
            have bad : perN (byt s[k]) = false → validB s = false := fun h => okB_at HS.out h
            have ST := Lib.hid step
            have BAD := Lib.hid bad
            clear step bad
            cases hb : letN (byt s[k]) with
            | true =>
              have HB := Lib.hid (letN_per hb)
              have HC := rletter_is hb w
              unfold byt at HC
              clear hb
              go_wp2_with fail
              refine HC.mono ?_
              rintro e w' ⟨rfl, rfl⟩
              go_wp2_with fail
              go_round
              case rel => exact ⟨k + 1, by omega, by go_num, ST.out HB.out⟩
              case measure => simp [intOf]; omega
            | false =>
              have HB := Lib.hid (no_let hb)
              have HC := rletter_is hb w
              unfold byt at HC
              obtain ⟨n, hn⟩ : ∃ n : Int, n = ((s[k].toNat : Nat) : Int) := ⟨_, rfl⟩
              have HN := Lib.hid hn
              have HK : Hid ((48 ≤ n ∧ n ≤ 57) ∨ n = 45 ∨ n = 95 ∨ n = 46 → perN (byt s[k]) = true) := fun h => by
                have e := HN.out
                rw [perN_iff]; unfold byt; rw [← e]; omega
              have HQ : Hid (¬ ((48 ≤ n ∧ n ≤ 57) ∨ n = 45 ∨ n = 95 ∨ n = 46) → validB s = false) := fun h => BAD.out (by
                cases hp : perN (byt s[k]) with
                | false => rfl
                | true =>
                  have e := HN.out
                  have h1 := perN_iff.mp hp
                  have h2 := HB.out
                  unfold byt at h1 h2
                  rw [← e] at h1 h2
                  omega)
              rw [← hn] at HC
              have hn' := hn.symm
              clear hb hn
              go_wp2_with fail
              refine HC.mono ?_
              rintro e w' ⟨rfl, rfl⟩
              rcases (show n < 45 ∨ n = 45 ∨ n = 46 ∨ n = 47 ∨ (48 ≤ n ∧ n ≤ 57) ∨ (57 < n ∧ n < 95) ∨ n = 95 ∨ 95 < n by omega) with h | h | h | h | h | h | h | h
              · have t0 : n < 48 := by omega
                have t1 : decide (57 < n) = false := decide_eq_false (by omega)
                have u0 : (n != 45) = true := by simp; omega
                have u1 : (n != 95) = true := by simp; omega
                have u2 : (n != 46) = true := by simp; omega
                have HE := Lib.hid (HQ.out (by omega))
                clear h HN HB
                go_wp2_with fail
                go_ret
                exact ⟨ret_bool HE.out.symm, rfl⟩
              · have t0 : n < 48 := by omega
                have t1 : decide (57 < n) = false := decide_eq_false (by omega)
                have u0 : (n != 45) = false := by simp; omega
                have u1 : (n != 95) = true := by simp; omega
                have u2 : (n != 46) = true := by simp; omega
                have HE := Lib.hid (ST.out (HK.out (by omega)))
                clear h HN HB
                go_wp2_with fail
                go_round
                case rel => exact ⟨k + 1, by omega, by go_num, HE.out⟩
                case measure => simp [intOf]; omega
              · have t0 : n < 48 := by omega
                have t1 : decide (57 < n) = false := decide_eq_false (by omega)
                have u0 : (n != 45) = true := by simp; omega
                have u1 : (n != 95) = true := by simp; omega
                have u2 : (n != 46) = false := by simp; omega
                have HE := Lib.hid (ST.out (HK.out (by omega)))
                clear h HN HB
                go_wp2_with fail
                go_round
                case rel => exact ⟨k + 1, by omega, by go_num, HE.out⟩
                case measure => simp [intOf]; omega
              · have t0 : n < 48 := by omega
                have t1 : decide (57 < n) = false := decide_eq_false (by omega)
                have u0 : (n != 45) = true := by simp; omega
                have u1 : (n != 95) = true := by simp; omega
                have u2 : (n != 46) = true := by simp; omega
                have HE := Lib.hid (HQ.out (by omega))
                clear h HN HB
                go_wp2_with fail
                go_ret
                exact ⟨ret_bool HE.out.symm, rfl⟩
              · have t0 : decide (n < 48) = false := decide_eq_false (by omega)
                have t1 : decide (57 < n) = false := decide_eq_false (by omega)
                have u0 : (n != 45) = true := by simp; omega
                have u1 : (n != 95) = true := by simp; omega
                have u2 : (n != 46) = true := by simp; omega
                have HE := Lib.hid (ST.out (HK.out (by omega)))
                clear h HN HB
                go_wp2_with fail
                go_round
                case rel => exact ⟨k + 1, by omega, by go_num, HE.out⟩
                case measure => simp [intOf]; omega
              · have t0 : decide (n < 48) = false := decide_eq_false (by omega)
                have t1 : 57 < n := by omega
                have u0 : (n != 45) = true := by simp; omega
                have u1 : (n != 95) = true := by simp; omega
                have u2 : (n != 46) = true := by simp; omega
                have HE := Lib.hid (HQ.out (by omega))
                clear h HN HB
                go_wp2_with fail
                go_ret
                exact ⟨ret_bool HE.out.symm, rfl⟩
              · have t0 : decide (n < 48) = false := decide_eq_false (by omega)
                have t1 : 57 < n := by omega
                have u0 : (n != 45) = true := by simp; omega
                have u1 : (n != 95) = false := by simp; omega
                have u2 : (n != 46) = true := by simp; omega
                have HE := Lib.hid (ST.out (HK.out (by omega)))
                clear h HN HB
                go_wp2_with fail
                go_round
                case rel => exact ⟨k + 1, by omega, by go_num, HE.out⟩
                case measure => simp [intOf]; omega
              · have t0 : decide (n < 48) = false := decide_eq_false (by omega)
                have t1 : 57 < n := by omega
                have u0 : (n != 45) = true := by simp; omega
                have u1 : (n != 95) = true := by simp; omega
                have u2 : (n != 46) = true := by simp; omega
                have HE := Lib.hid (HQ.out (by omega))
                clear h HN HB
                go_wp2_with fail
                go_ret
                exact ⟨ret_bool HE.out.symm, rfl⟩
          · obtain rfl : k = s.size := by omega
            have HV : Hid (validB s = true) := okB_yes HG.out HF.out (List.all_eq_true.mpr fun b hb => by
              obtain ⟨j, hj⟩ := List.mem_iff_getElem?.mp hb
              exact HA.out j b (by have := HL.out; have := (List.getElem?_eq_some_iff.mp hj).1; omega) hj) (by have := HL.out; have := HLL.out; omega)
            go_wp2_with fail
            go_ret
            exact ⟨ret_bool HV.out.symm, rfl⟩
theorem rvalid_is {s : ByteArray} {b : Bool} (h : validB s = b) (hm : s.size ≤ 9223372036854775807) (w : World) : Calls Try.prog 11 #[.string s] w fun e w' => e = .returned (.bool b) ∧ w = w' := h ▸ ref_Valid s w hm
#print axioms ident_isPermitted
#print axioms ident_Valid
#print axioms ref_Valid
end Go.Proofs.Ytbmedekfhifcpaa.Ident
