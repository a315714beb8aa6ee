/- Contracts of num.Sqrt and of Sqrt of the reference. -/
import Derived.Test.YtekjmkihmegnnaaNumB
namespace Go.Proofs.Ytekjmkihmegnnaa
open Go.ChangeShapes Go.WideShapes Go.RowKit
set_option linter.unusedVariables false

/-- The square root, bit by bit: the bits below 2^k are still to come. -/
def sqF : Nat → Nat → Nat → Nat
  | 0, s, _ => s
  | k + 1, s, n => sqF k (if (s + 2 ^ k) * (s + 2 ^ k) ≤ n then s + 2 ^ k else s) n
theorem sqF_spec (k : Nat) : ∀ s n : Nat, s * s ≤ n → n < (s + 2 ^ k) * (s + 2 ^ k) → sqF k s n * sqF k s n ≤ n ∧ n < (sqF k s n + 1) * (sqF k s n + 1) := by
  induction k with
  | zero => intro s n h1 h2; exact ⟨h1, by simpa [sqF] using h2⟩
  | succ k ih =>
    intro s n h1 h2
    unfold sqF
    by_cases h : (s + 2 ^ k) * (s + 2 ^ k) ≤ n
    · rw [if_pos h]
      refine ih _ _ h ?_
      have e : s + 2 ^ k + 2 ^ k = s + 2 ^ (k + 1) := by rw [Nat.pow_succ]; omega
      rw [e]; exact h2
    · rw [if_neg h]
      exact ih _ _ h1 (by omega)
theorem sqF_le {n : Nat} (hn : n ≤ 1125899906842624) : sqF 26 0 n * sqF 26 0 n ≤ n ∧ n < (sqF 26 0 n + 1) * (sqF 26 0 n + 1) ∧ sqF 26 0 n ≤ 33554432 := by
  obtain ⟨h1, h2⟩ := sqF_spec 26 0 n (by omega) (by omega)
  refine ⟨h1, h2, ?_⟩
  by_cases h : sqF 26 0 n ≤ 33554432
  · exact h
  · have h3 : 33554433 * 33554433 ≤ sqF 26 0 n * sqF 26 0 n := Nat.mul_le_mul (by omega) (by omega)
    omega
def sqrtV (n : Int) : Int := if 0 ≤ n ∧ n ≤ 1125899906842624 then (sqF 26 0 n.toNat : Int) else 0
def sqrtE (n : Int) : Int := if 0 ≤ n ∧ n ≤ 1125899906842624 then 0 else 1

/-- What holds at the head of a round: the bit b is half of 2^k, and the bits from b on are still to come. -/
def SqAt (T n r b : Nat) : Prop := ∃ k, b = 2 ^ k / 2 ∧ sqF k r n = T ∧ r + 2 ^ k ≤ 67108864
theorem sq_start (n : Nat) : SqAt (sqF 26 0 n) n 0 33554432 := ⟨26, by decide, rfl, by decide⟩
theorem sq_le {T n r b : Nat} (h : SqAt T n r b) : r + 2 * b ≤ 67108864 := by
  obtain ⟨k, h1, _, h3⟩ := h; omega
theorem sq_end {T n r : Nat} (h : SqAt T n r 0) : T = r := by
  obtain ⟨k, h1, h2, _⟩ := h
  cases k with
  | zero => exact h2.symm
  | succ k => have := Nat.two_pow_pos k; rw [Nat.pow_succ] at h1; omega
theorem sq_yes {T n r b : Nat} (h : SqAt T n r b) (hb : 1 ≤ b) (ht : (r + b) * (r + b) ≤ n) : SqAt T n (r + b) (b / 2) := by
  obtain ⟨k, h1, h2, h3⟩ := h
  cases k with
  | zero => simp at h1; omega
  | succ k =>
    rw [Nat.pow_succ] at h1 h3
    have e : b = 2 ^ k := by omega
    subst e
    unfold sqF at h2; rw [if_pos ht] at h2
    exact ⟨k, rfl, h2, by omega⟩
theorem sq_no {T n r b : Nat} (h : SqAt T n r b) (hb : 1 ≤ b) (ht : ¬ (r + b) * (r + b) ≤ n) : SqAt T n r (b / 2) := by
  obtain ⟨k, h1, h2, h3⟩ := h
  cases k with
  | zero => simp at h1; omega
  | succ k =>
    rw [Nat.pow_succ] at h1 h3
    have e : b = 2 ^ k := by omega
    subst e
    unfold sqF at h2; rw [if_neg ht] at h2
    exact ⟨k, rfl, h2, by omega⟩
theorem sq_mul {T n r b : Nat} (h : SqAt T n r b) : ((r : Int) + (b : Int)) * ((r : Int) + (b : Int)) ≤ 4503599627370496 := by
  have h1 := sq_le h
  have h2 : (r + b) * (r + b) ≤ 67108864 * 67108864 := Nat.mul_le_mul (by omega) (by omega)
  have h3 : (((r + b) * (r + b) : Nat) : Int) = ((r : Int) + (b : Int)) * ((r : Int) + (b : Int)) := by rw [Int.natCast_mul, Int.natCast_add]
  omega
theorem sq_cast (r b : Nat) : ((r : Int) + (b : Int)) * ((r : Int) + (b : Int)) = (((r + b) * (r + b) : Nat) : Int) := by rw [Int.natCast_mul, Int.natCast_add]

theorem pow_pos_int (i : Nat) : 0 ≤ (2 : Int) ^ i := by
  have e : ((2 ^ i : Nat) : Int) = (2 : Int) ^ i := by rw [Int.natCast_pow]; rfl
  rw [← e]; exact Int.natCast_nonneg _
theorem pow_le_int {r i : Nat} (h : r + 2 ^ (i + 1) ≤ 67108864) : (r : Int) + 2 * (2 : Int) ^ i ≤ 67108864 := by
  have e : ((2 ^ i : Nat) : Int) = (2 : Int) ^ i := by rw [Int.natCast_pow]; rfl
  rw [Nat.pow_succ] at h; omega
theorem sq_cast2 (r i : Nat) : ((r : Int) + (2 : Int) ^ i) * ((r : Int) + (2 : Int) ^ i) = (((r + 2 ^ i) * (r + 2 ^ i) : Nat) : Int) := by
  have e : ((2 ^ i : Nat) : Int) = (2 : Int) ^ i := by rw [Int.natCast_pow]; rfl
  rw [Int.natCast_mul, Int.natCast_add, e]
theorem sq_mul2 {r i : Nat} (h : r + 2 ^ (i + 1) ≤ 67108864) : ((r : Int) + (2 : Int) ^ i) * ((r : Int) + (2 : Int) ^ i) ≤ 4503599627370496 := by
  rw [Nat.pow_succ] at h
  have h2 : (r + 2 ^ i) * (r + 2 ^ i) ≤ 67108864 * 67108864 := Nat.mul_le_mul (by omega) (by omega)
  rw [sq_cast2]; omega
theorem pow_val (r i : Nat) : Value.int .i64 ((r : Int) + (2 : Int) ^ i) = Value.int .i64 ((r + 2 ^ i : Nat) : Int) := by
  have e : ((2 ^ i : Nat) : Int) = (2 : Int) ^ i := by rw [Int.natCast_pow]; rfl
  rw [Int.natCast_add, e]
theorem sqF_yes {T r i n : Nat} (h : sqF (i + 1) r n = T) (ht : (r + 2 ^ i) * (r + 2 ^ i) ≤ n) : sqF i (r + 2 ^ i) n = T := by
  unfold sqF at h; rw [if_pos ht] at h; exact h
theorem sqF_no {T r i n : Nat} (h : sqF (i + 1) r n = T) (ht : ¬ (r + 2 ^ i) * (r + 2 ^ i) ≤ n) : sqF i r n = T := by
  unfold sqF at h; rw [if_neg ht] at h; exact h

set_option maxHeartbeats 400000 in
theorem num_sqrt (n : Int) (w : World) :
    Calls Try.prog 25 #[.int .i64 n] w fun e w' => e = .returned (.tuple #[.int .i64 (sqrtV n), .int .i64 (sqrtE n)]) ∧ w = w' := by
  by_cases hn : 0 ≤ n ∧ n ≤ 1125899906842624
  · obtain ⟨m, rfl⟩ : ∃ m : Nat, n = m := ⟨n.toNat, by omega⟩
    have eV : sqrtV (m : Int) = (sqF 26 0 m : Int) := if_pos hn
    have eE : sqrtE (m : Int) = 0 := if_pos hn
    rw [eV, eE]; clear eV eE
    have hi := inB_yes (n := (m : Int)) (by omega) hn.2
    have hm : (m : Int) ≤ 1125899906842624 := hn.2
    have h0 : 0 ≤ (m : Int) := hn.1
    clear hn
    go_enter Try.func25, Try.ntmps25
    go_wp2_with (go_at_call 27; refine (num_in _ _).mono ?_; rintro e w' ⟨rfl, rfl⟩)
    go_loop [4, 5, 6] (fun u v z => ∃ r b : Nat, u = .int .i64 r ∧ v = .int .i64 b ∧ SqAt (sqF 26 0 m) m r b) (fun _ v _ => (intOf v).toNat)
    case atStart => exact ⟨0, 33554432, rfl, rfl, sq_start m⟩
    case round =>
      obtain ⟨r, b, rfl, rfl, hs⟩ := hrel
      have H := Lib.hid hs
      have hle := sq_le hs
      have hmu := sq_mul hs
      have hmu0 : 0 ≤ ((r : Int) + (b : Int)) * ((r : Int) + (b : Int)) := by rw [sq_cast]; omega
      clear hs
      by_cases hz : b = 0
      · subst hz
        go_wp2
        go_ret2
        exact ⟨ret_two (by rw [sq_end H.out]) rfl, rfl⟩
      · have hb1 : 1 ≤ (b : Int) := by omega
        have hb2 : 1 ≤ b := by omega
        clear hz
        by_cases ht : ((r : Int) + (b : Int)) * ((r : Int) + (b : Int)) ≤ m
        · have ht' : (r + b) * (r + b) ≤ m := by rw [sq_cast] at ht; omega
          have HT := Lib.hid ht'
          clear ht'
          go_wp2
          go_round
          case rel => exact ⟨r + b, b / 2, by go_num, by go_num, sq_yes H.out hb2 HT.out⟩
          case measure => simp [intOf]; omega
        · have ht' : ¬ (r + b) * (r + b) ≤ m := by rw [sq_cast] at ht; omega
          have HT := Lib.hid ht'
          clear ht'
          go_wp2
          go_round
          case rel => exact ⟨r, b / 2, rfl, by go_num, sq_no H.out hb2 HT.out⟩
          case measure => simp [intOf]; omega
  · have eV : sqrtV n = 0 := if_neg hn
    have eE : sqrtE n = 1 := if_neg hn
    rw [eV, eE]; clear eV eE
    by_cases h0 : n < 0
    · go_enter Try.func25, Try.ntmps25
      go_wp2
      go_ret2
      exact ⟨rfl, rfl⟩
    · have hi := inB_no (n := n) (by omega)
      have h1 : decide (n < 0) = false := by simpa using h0
      go_enter Try.func25, Try.ntmps25
      go_wp2_with (go_at_call 27; refine (num_in _ _).mono ?_; rintro e w' ⟨rfl, rfl⟩)
      go_ret2
      exact ⟨rfl, rfl⟩

set_option maxHeartbeats 400000 in
theorem ref_sqrt (n : Int) (w : World) :
    Calls Try.prog 26 #[.int .i64 n] w fun e w' => e = .returned (.tuple #[.int .i64 (sqrtV n), .int .i64 (sqrtE n)]) ∧ w = w' := by
  by_cases hn : 0 ≤ n ∧ n ≤ 1125899906842624
  · obtain ⟨m, rfl⟩ : ∃ m : Nat, n = m := ⟨n.toNat, by omega⟩
    have eV : sqrtV (m : Int) = (sqF 26 0 m : Int) := if_pos hn
    have eE : sqrtE (m : Int) = 0 := if_pos hn
    rw [eV, eE]; clear eV eE
    have hm : (m : Int) ≤ 1125899906842624 := hn.2
    have h0 : 0 ≤ (m : Int) := hn.1
    clear hn
    go_enter Try.func26, Try.ntmps26
    go_wp2
    go_loop [4, 5, 6] (fun u v z => ∃ r j : Nat, j ≤ 26 ∧ u = .int .i64 r ∧ v = .int .i64 ((j : Int) - 1) ∧ sqF j r m = sqF 26 0 m ∧ r + 2 ^ j ≤ 67108864) (fun _ v _ => (intOf v + 1).toNat)
    case atStart => exact ⟨0, 26, by omega, rfl, by go_num, rfl, by decide⟩
    case round =>
      obtain ⟨r, j, hj, rfl, rfl, hs, hle⟩ := hrel
      have HS := Lib.hid hs
      clear hs
      cases j with
      | zero =>
        go_wp2
        go_ret2
        exact ⟨ret_two (by rw [← HS.out]; rfl) rfl, rfl⟩
      | succ i =>
        have hi : ((i + 1 : Nat) : Int) - 1 = i := by omega
        rw [hi]; clear hi
        have hp0 := pow_pos_int i
        have hp1 := pow_le_int hle
        have hmu0 : 0 ≤ ((r : Int) + 2 ^ i) * ((r : Int) + 2 ^ i) := by rw [sq_cast2]; omega
        have hmu := sq_mul2 hle
        by_cases ht : ((r : Int) + 2 ^ i) * ((r : Int) + 2 ^ i) ≤ m
        · have ht' : (r + 2 ^ i) * (r + 2 ^ i) ≤ m := by rw [sq_cast2] at ht; omega
          have HT := Lib.hid ht'
          have HL := Lib.hid hle
          clear ht' hle
          go_wp2
          go_round
          case rel => exact ⟨r + 2 ^ i, i, by omega, pow_val r i, rfl, sqF_yes HS.out HT.out, by have := HL.out; rw [Nat.pow_succ] at this; omega⟩
          case measure => simp [intOf]
        · have ht' : ¬ (r + 2 ^ i) * (r + 2 ^ i) ≤ m := by rw [sq_cast2] at ht; omega
          have HT := Lib.hid ht'
          have HL := Lib.hid hle
          clear ht' hle
          go_wp2
          go_round
          case rel => exact ⟨r, i, by omega, rfl, rfl, sqF_no HS.out HT.out, by have := HL.out; rw [Nat.pow_succ] at this; omega⟩
          case measure => simp [intOf]
  · have eV : sqrtV n = 0 := if_neg hn
    have eE : sqrtE n = 1 := if_neg hn
    rw [eV, eE]; clear eV eE
    by_cases h0 : n < 0
    · go_enter Try.func26, Try.ntmps26
      go_wp2
      go_ret2
      exact ⟨rfl, rfl⟩
    · have h1 : decide (n < 0) = false := by simpa using h0
      have h2 : 1125899906842624 < n := by omega
      go_enter Try.func26, Try.ntmps26
      go_wp2
      go_ret2
      exact ⟨rfl, rfl⟩
#print axioms num_sqrt
#print axioms ref_sqrt
end Go.Proofs.Ytekjmkihmegnnaa
