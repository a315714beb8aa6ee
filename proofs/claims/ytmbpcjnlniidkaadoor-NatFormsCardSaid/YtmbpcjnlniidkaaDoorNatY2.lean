/- Contracts of limb and Text of the reference. -/
import Derived.Test.YtmbpcjnlniidkaaDoorNatY
namespace Go.Proofs.YtmbpcjnlniidkaaDoor
open Go.ChangeShapes Go.WideShapes Go.RowKit
set_option linter.unusedVariables false

theorem padD_cons (k : Nat) : ∀ n : Nat, padD (k + 1) n = UInt8.ofNat (48 + n / 10 ^ k % 10) :: padD k n := by
  induction k with
  | zero => intro n; simp [padD]
  | succ k ih =>
    intro n
    rw [padD, ih (n / 10), padD, List.cons_append, Nat.div_div_eq_div_mul, Nat.pow_succ, Nat.mul_comm 10]
theorem padD_mod (k : Nat) : ∀ n : Nat, padD k n = padD k (n % 10 ^ k) := by
  induction k with
  | zero => intro n; rfl
  | succ k ih =>
    intro n
    have p : 0 < 10 ^ k := Nat.pow_pos (by decide)
    have e1 : n % 10 ^ (k + 1) / 10 = n / 10 % 10 ^ k := by rw [Nat.pow_succ, Nat.mul_comm, Nat.mod_mul_right_div_self]
    have e2 : n % 10 ^ (k + 1) % 10 = n % 10 := by rw [Nat.pow_succ, Nat.mul_comm, Nat.mod_mul_right_mod]
    rw [padD, padD, e1, e2, ih (n / 10)]
theorem dec_split (k n : Nat) (h : 0 < n / 10 ^ k) : Lib.decDigits n = Lib.decDigits (n / 10 ^ k) ++ padD k n := by
  have p : 0 < 10 ^ k := Nat.pow_pos (by decide)
  have e := dec_pad k (n / 10 ^ k) (n % 10 ^ k) h (Nat.mod_lt _ p)
  rw [Nat.mul_comm, Nat.div_add_mod, ← padD_mod] at e
  exact e
theorem dec_done (k n : Nat) (h0 : 0 < n / 10 ^ k) (h1 : n / 10 ^ (k + 1) = 0) : Lib.decDigits n = padD (k + 1) n := by
  have hd : n / 10 ^ k < 10 := by
    rw [Nat.pow_succ, ← Nat.div_div_eq_div_mul] at h1
    omega
  rw [dec_split k n h0, Lib.decDigits_one hd, padD_cons, Nat.mod_eq_of_lt hd]; rfl
/-- The digits of a limb: nine of them, if full. -/
def limbL (n : Nat) (full : Bool) : List UInt8 := if full then padD 9 n else Lib.decDigits n
theorem digit_str {d : Nat} (h : d < 10) : (ByteArray.extract ⟨#[48, 49, 50, 51, 52, 53, 54, 55, 56, 57]⟩ d (d + 1)) = ⟨#[UInt8.ofNat (48 + d)]⟩ := by
  have : ∀ d : Nat, d < 10 → (ByteArray.extract ⟨#[48, 49, 50, 51, 52, 53, 54, 55, 56, 57]⟩ d (d + 1)).data.toList = [UInt8.ofNat (48 + d)] := by decide +kernel
  exact bytes_inj (this d h)

set_option maxHeartbeats 1600000 in
theorem ref_limb (n : Nat) (full : Bool) (w : World) (hn : n < 1000000000) (hp : full = true ∨ 0 < n) :
    Calls Tryd.prog 41 #[.int .i64 (n : Int), .bool full] w fun e w' => ∃ S : ByteArray, e = .returned (.string S) ∧ Hid (S.data.toList = limbL n full) ∧ S.size ≤ 9 ∧ w = w' := by
  have HP := Lib.hid hp
  clear hp
  go_enter Tryd.func41, Tryd.ntmps41
  go_wp2_with fail
  go_loop [0, 5, 6] (fun nv sv iv => ∃ (k : Nat) (S : ByteArray), k ≤ 9 ∧ nv = .int .i64 ((n / 10 ^ k : Nat) : Int) ∧ sv = .string S ∧ iv = .int .i64 (k : Int) ∧ S.data.toList = padD k n ∧ S.size = k ∧ (full = false → 0 < k → 0 < n / 10 ^ (k - 1))) (fun _ _ iv => 9 - (intOf iv).toNat)
  case atStart => exact ⟨0, ⟨#[]⟩, by omega, by simp, rfl, rfl, rfl, rfl, fun _ h => absurd h (by omega)⟩
  case round =>
    obtain ⟨k, S, hk, rfl, rfl, rfl, hS, hsz, hfl⟩ := hrel
    obtain ⟨m, hm⟩ : ∃ m, m = n / 10 ^ k := ⟨_, rfl⟩
    have hmn : m ≤ n := by rw [hm]; exact Nat.div_le_self _ _
    have hm1 : n / 10 ^ (k + 1) = m / 10 := by rw [hm, Nat.pow_succ, Nat.div_div_eq_div_mul]
    rw [← hm]
    have HM := Lib.hid hm
    have HM1 := Lib.hid hm1
    have HS := Lib.hid hS
    have HSZ := Lib.hid hsz
    have HFL := Lib.hid hfl
    have hr : (m : Int).tmod 10 = ((m % 10 : Nat) : Int) := by rw [Int.tmod_eq_emod_of_nonneg (by omega)]; rfl
    have hq : (m : Int).tdiv 10 = ((m / 10 : Nat) : Int) := by rw [Int.tdiv_eq_ediv_of_nonneg (by omega)]; rfl
    have hd : m % 10 < 10 := Nat.mod_lt _ (by decide)
    obtain ⟨dd, hdd⟩ : ∃ dd, dd = m % 10 := ⟨_, rfl⟩
    rw [← hdd] at hr hd
    have HDD := Lib.hid hdd
    have hdig := digit_str hd
    obtain ⟨D, hD⟩ : ∃ D : ByteArray, D = ⟨#[UInt8.ofNat (48 + dd)]⟩ := ⟨_, rfl⟩
    rw [← hD] at hdig
    have HDIG := Lib.hid hdig
    have hDs : D.size = 1 := by rw [hD]; rfl
    have HDL := Lib.hid (show (D ++ S).data.toList = UInt8.ofNat (48 + dd) :: S.data.toList by rw [hD, ByteArray.data_append]; simp)
    have HDSZ := Lib.hid (show (D ++ S).size = k + 1 by rw [ByteArray.size_append, hDs, hsz]; omega)
    have hSs : S.size = k := hsz
    have step : (D ++ S).data.toList = padD (k + 1) n := by rw [HDL.out, hS, padD_cons, ← hm, ← hdd]
    have STEP := Lib.hid step
    clear hm hm1 hS hsz hfl hdd hD step
    rcases Nat.lt_or_ge k 9 with hk9 | hk9
    · by_cases hmp : 0 < m
      · go_wp2_with fail
        go_round
        case rel =>
          refine ⟨k + 1, D ++ S, by omega, ?_, rfl, by go_num, STEP.out, HDSZ.out, fun _ _ => ?_⟩
          · rw [HM1.out]; go_num
          · rw [Nat.add_sub_cancel, ← HM.out]; exact hmp
        case measure => simp [intOf]; omega
      · obtain rfl : m = 0 := by omega
        cases full with
        | true =>
          go_wp2_with fail
          go_round
          case rel =>
            refine ⟨k + 1, D ++ S, by omega, ?_, ?_, by go_num, STEP.out, HDSZ.out, fun h => by cases h⟩
            · rw [HM1.out]; go_num
            · have e : dd = 0 := by simpa using HDD.out
              rw [← HDIG.out, e]
          case measure => simp [intOf]; omega
        | false =>
          have hfin : S.data.toList = limbL n false := by
            have hn0 : 0 < n := HP.out.resolve_left (by simp)
            rw [HS.out, limbL]
            cases k with
            | zero => exfalso; have := HM.out; simp at this; omega
            | succ k =>
              have h0 := HFL.out rfl (by omega)
              rw [Nat.add_sub_cancel] at h0
              exact (dec_done k n h0 HM.out.symm).symm
          have HFIN := Lib.hid hfin
          clear hfin
          go_wp2_with fail
          go_ret
          exact ⟨S, rfl, HFIN.out, by omega, rfl⟩
    · obtain rfl : k = 9 := by omega
      have hfin : S.data.toList = limbL n full := by
        rw [HS.out]
        cases full with
        | true => rfl
        | false =>
          have h0 := HFL.out rfl (by omega)
          have h1 : n / 10 ^ (8 + 1) = 0 := Nat.div_eq_of_lt (by simpa using hn)
          exact (dec_done 8 n h0 h1).symm
      have HFIN := Lib.hid hfin
      clear hfin
      go_wp2_with fail
      go_ret
      exact ⟨S, rfl, HFIN.out, by omega, rfl⟩

theorem padD_add (j : Nat) (k : Nat) : ∀ q r : Nat, r < 10 ^ k → padD (j + k) (q * 10 ^ k + r) = padD j q ++ padD k r := by
  induction k with
  | zero => intro q r h; obtain rfl : r = 0 := by simpa using h
            simp [padD]
  | succ k ih =>
    intro q r hr
    have p : 0 < 10 ^ k := Nat.pow_pos (by decide)
    rw [Nat.pow_succ] at hr ⊢
    have e1 : (q * (10 ^ k * 10) + r) / 10 = q * 10 ^ k + r / 10 := by
      rw [← Nat.mul_assoc, Nat.mul_comm (q * 10 ^ k) 10, Nat.mul_add_div (by decide)]
    have e2 : (q * (10 ^ k * 10) + r) % 10 = r % 10 := by
      rw [← Nat.mul_assoc, Nat.mul_comm (q * 10 ^ k) 10, Nat.mul_add_mod]
    rw [← Nat.add_assoc, padD, e1, e2, ih q (r / 10) (by omega), padD, List.append_assoc]
theorem nval_nat_lt {l : List Int} (h : lok l = true) : (nval l).toNat < 10 ^ (9 * l.length) := by
  rw [← pow9]
  have a := nval_lt h
  have b := nval_nonneg h
  have : ((1000000000 ^ l.length : Nat) : Int) = (1000000000 : Int) ^ l.length := by rw [Int.natCast_pow]; rfl
  omega
theorem nval_nat_snoc {l : List Int} {k : Nat} {x : Int} (hx : l[k]? = some x) (hl : lok l = true) : (nval (l.take (k + 1))).toNat = x.toNat * 10 ^ (9 * k) + (nval (l.take k)).toNat := by
  have xb := lok_at hl hx
  have hk : k < l.length := by
    rcases Nat.lt_or_ge k l.length with h1 | h1
    · exact h1
    · rw [List.getElem?_eq_none h1] at hx; cases hx
  rw [trim_step hx, nval_snoc, List.length_take, Nat.min_eq_left (by omega), ← pow9]
  have b := nval_nonneg (lok_take hl k)
  have e : ((1000000000 ^ k : Nat) : Int) = (1000000000 : Int) ^ k := by rw [Int.natCast_pow]; rfl
  have ex : x = (x.toNat : Int) := by omega
  have e2 : (1000000000 : Int) ^ k * x = ((x.toNat * 1000000000 ^ k : Nat) : Int) := by rw [Int.natCast_mul, e, ← ex, Int.mul_comm]
  rw [e2]; omega
theorem take_nat_lt {l : List Int} {k : Nat} (hl : lok l = true) (hk : k ≤ l.length) : (nval (l.take k)).toNat < 10 ^ (9 * k) := by
  have := nval_nat_lt (lok_take hl k)
  rwa [List.length_take, Nat.min_eq_left hk] at this
#print axioms ref_limb
#print axioms padD_add
#print axioms nval_nat_snoc
end Go.Proofs.YtmbpcjnlniidkaaDoor
