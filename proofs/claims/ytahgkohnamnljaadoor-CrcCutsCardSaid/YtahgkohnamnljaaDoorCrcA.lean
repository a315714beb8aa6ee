/- Checksums and frames: what the chapter says, in Lean; bursts, damage, cuts. Pure. -/
import Derived.Test.YtahgkohnamnljaaDoorWireA
namespace Go.Proofs.YtahgkohnamnljaaDoor.Crc
open Go.ChangeShapes Go.WideShapes Go.RowKit
open Wire (encI takeI take_enc take_ok isI len_isI encI_ten encI_pos scan enc TR byte_of of_byte)
set_option linter.unusedVariables false
set_option maxRecDepth 100000

/-! ### The register -/
/-- One shift. -/
def s1 (r : Nat) : Nat := (r / 2) ^^^ (if r % 2 = 1 then 3988292384 else 0)
theorem s1_xor (a b : Nat) : s1 (a ^^^ b) = s1 a ^^^ s1 b := by
  unfold s1
  rw [Nat.xor_div_two]
  have h := Nat.xor_mod_two_eq_one (a := a) (b := b)
  by_cases ha : a % 2 = 1 <;> by_cases hb : b % 2 = 1 <;> simp only [ha, hb, if_true, if_false] at h ⊢
  · rw [if_neg (by rw [h]; simp)]
    rw [Nat.xor_zero, Nat.xor_assoc, Nat.xor_comm (3988292384), Nat.xor_assoc, Nat.xor_self, Nat.xor_zero]
  · rw [if_pos (by rw [h]; simp)]
    rw [Nat.xor_zero, Nat.xor_assoc, Nat.xor_assoc, Nat.xor_comm (b / 2)]
  · rw [if_pos (by rw [h]; simp)]
    rw [Nat.xor_zero, Nat.xor_assoc]
  · rw [if_neg (by rw [h]; simp)]
    simp
theorem s1_lt {r : Nat} (h : r < 4294967296) : s1 r < 4294967296 := by
  unfold s1
  refine Nat.xor_lt_two_pow (n := 32) (by omega) ?_
  split <;> omega
theorem xor_eq_zero {a b : Nat} (h : a ^^^ b = 0) : a = b := by
  have : a ^^^ b ^^^ b = b := by rw [h, Nat.zero_xor]
  rwa [Nat.xor_assoc, Nat.xor_self, Nat.xor_zero] at this
theorem s1_ne {r : Nat} (h : r < 4294967296) (h0 : s1 r = 0) : r = 0 := by
  unfold s1 at h0
  have h1 := xor_eq_zero h0
  split at h1 <;> omega
theorem s1_two (y : Nat) : s1 (2 * y) = y := by
  unfold s1
  rw [if_neg (by omega), Nat.xor_zero]; omega
def s8 (r : Nat) : Nat := s1 (s1 (s1 (s1 (s1 (s1 (s1 (s1 r)))))))
theorem s8_xor (a b : Nat) : s8 (a ^^^ b) = s8 a ^^^ s8 b := by simp only [s8, s1_xor]
theorem s8_lt {r : Nat} (h : r < 4294967296) : s8 r < 4294967296 := s1_lt (s1_lt (s1_lt (s1_lt (s1_lt (s1_lt (s1_lt (s1_lt h)))))))
theorem s8_ne {r : Nat} (h : r < 4294967296) (h0 : s8 r = 0) : r = 0 := by
  have k1 := s1_lt h
  have k2 := s1_lt k1
  have k3 := s1_lt k2
  have k4 := s1_lt k3
  have k5 := s1_lt k4
  have k6 := s1_lt k5
  have k7 := s1_lt k6
  exact s1_ne h (s1_ne k1 (s1_ne k2 (s1_ne k3 (s1_ne k4 (s1_ne k5 (s1_ne k6 (s1_ne k7 h0)))))))
theorem s8_inj {a b : Nat} (ha : a < 4294967296) (hb : b < 4294967296) (h : s8 a = s8 b) : a = b := by
  refine xor_eq_zero (s8_ne (Nat.xor_lt_two_pow (n := 32) ha hb) ?_)
  rw [s8_xor, h, Nat.xor_self]
theorem s8_shift (y : Nat) : s8 (256 * y) = y := by
  have e : 256 * y = 2 * (2 * (2 * (2 * (2 * (2 * (2 * (2 * y))))))) := by omega
  rw [e]; unfold s8
  simp only [s1_two]

/-! ### Bytes -/
def ext (r : Nat) : List UInt8 → Nat
  | [] => r
  | b :: l => ext (s8 (r ^^^ b.toNat)) l
theorem ext_append (r : Nat) (a b : List UInt8) : ext r (a ++ b) = ext (ext r a) b := by
  induction a generalizing r with
  | nil => rfl
  | cons x a ih => simp only [List.cons_append, ext, ih]
theorem xb_lt {r : Nat} (b : UInt8) (h : r < 4294967296) : r ^^^ b.toNat < 4294967296 := Nat.xor_lt_two_pow (n := 32) h (by have := UInt8.toNat_lt b; omega)
theorem ext_lt {r : Nat} (l : List UInt8) (h : r < 4294967296) : ext r l < 4294967296 := by
  induction l generalizing r with
  | nil => exact h
  | cons b l ih => exact ih (s8_lt (xb_lt b h))
theorem xor_cancel {a b c : Nat} (h : a ^^^ c = b ^^^ c) : a = b := by
  have : a ^^^ c ^^^ c = b ^^^ c ^^^ c := by rw [h]
  rwa [Nat.xor_assoc, Nat.xor_self, Nat.xor_zero, Nat.xor_assoc, Nat.xor_self, Nat.xor_zero] at this
theorem ext_inj {r r' : Nat} (l : List UInt8) (h : r < 4294967296) (h' : r' < 4294967296) (he : ext r l = ext r' l) : r = r' := by
  induction l generalizing r r' with
  | nil => exact he
  | cons b l ih => exact xor_cancel (s8_inj (xb_lt b h) (xb_lt b h') (ih (s8_lt (xb_lt b h)) (s8_lt (xb_lt b h')) he))
/-- The bytes as one number. -/
def word : List UInt8 → Nat
  | [] => 0
  | b :: l => b.toNat + 256 * word l
theorem word_lt (l : List UInt8) : word l < 256 ^ l.length := by
  induction l with
  | nil => decide
  | cons b l ih =>
    have := UInt8.toNat_lt b
    rw [List.length_cons, Nat.pow_succ, word]; omega
theorem word_inj : ∀ (a b : List UInt8), a.length = b.length → word a = word b → a = b := by
  intro a
  induction a with
  | nil => intro b hl _; exact (List.eq_nil_of_length_eq_zero hl.symm).symm
  | cons x a ih =>
    intro b hl hw
    cases b with
    | nil => cases hl
    | cons y b =>
      have hx := UInt8.toNat_lt x
      have hy := UInt8.toNat_lt y
      simp only [word] at hw
      have e1 : x = y := UInt8.toNat_inj.mp (by omega)
      have e2 : a = b := ih b (by simpa using hl) (by omega)
      rw [e1, e2]
theorem low_xor (b : UInt8) (w : Nat) : b.toNat ^^^ (256 * w) = b.toNat + 256 * w := by
  have hb := UInt8.toNat_lt b
  rw [Nat.add_comm, show 256 * w = 2 ^ 8 * w from rfl, Nat.two_pow_add_eq_or_of_lt (i := 8) (by omega)]
  apply Nat.eq_of_testBit_eq
  intro i
  rw [Nat.testBit_xor, Nat.testBit_or, Nat.testBit_two_pow_mul]
  rcases Nat.lt_or_ge i 8 with h | h
  · simp [show ¬ 8 ≤ i by omega]
  · have : b.toNat.testBit i = false := Nat.testBit_lt_two_pow (Nat.lt_of_lt_of_le hb (Nat.pow_le_pow_right (by omega) h))
    simp [this]
def iter (n : Nat) (r : Nat) : Nat := match n with
  | 0 => r
  | n + 1 => iter n (s8 r)
theorem iter_inj {a b : Nat} : ∀ n : Nat, a < 4294967296 → b < 4294967296 → iter n a = iter n b → a = b := by
  intro n
  induction n generalizing a b with
  | zero => intro _ _ h; exact h
  | succ n ih => intro ha hb h; exact s8_inj ha hb (ih (s8_lt ha) (s8_lt hb) h)
theorem ext_word (l : List UInt8) : ∀ r, ext r l = iter l.length (r ^^^ word l) := by
  induction l with
  | nil => intro r; simp [ext, iter, word]
  | cons b l ih =>
    intro r
    rw [ext, ih, List.length_cons, iter]
    congr 1
    conv => lhs; rhs; rw [← s8_shift (word l)]
    rw [← s8_xor, Nat.xor_assoc, low_xor, word]
/-- At most four bytes that differ. -/
theorem ext_four {r : Nat} (h : r < 4294967296) {x y : List UInt8} (hl : x.length = y.length) (h4 : x.length ≤ 4) (he : ext r x = ext r y) : x = y := by
  rw [ext_word, ext_word, ← hl] at he
  have p4 : 256 ^ x.length ≤ 4294967296 := Nat.le_trans (Nat.pow_le_pow_right (by omega) h4) (by decide)
  have w1 : word x < 4294967296 := Nat.lt_of_lt_of_le (word_lt x) p4
  have w2 : word y < 4294967296 := Nat.lt_of_lt_of_le (word_lt y) (hl ▸ p4)
  have h1 := iter_inj _ (Nat.xor_lt_two_pow (n := 32) h w1) (Nat.xor_lt_two_pow (n := 32) h w2) he
  rw [Nat.xor_comm r, Nat.xor_comm r] at h1
  exact word_inj x y hl (xor_cancel h1)

/-! ### Checksums -/
def extS (sum : Nat) (l : List UInt8) : Nat := ext (sum ^^^ 4294967295) l ^^^ 4294967295
def chk (l : List UInt8) : Nat := extS 0 l
theorem flip_lt {r : Nat} (h : r < 4294967296) : r ^^^ 4294967295 < 4294967296 := Nat.xor_lt_two_pow (n := 32) h (by decide)
theorem extS_lt {sum : Nat} (h : sum < 4294967296) (l : List UInt8) : extS sum l < 4294967296 := flip_lt (ext_lt l (flip_lt h))
theorem chk_lt (l : List UInt8) : chk l < 4294967296 := extS_lt (by decide) l
theorem flip_flip (r : Nat) : r ^^^ 4294967295 ^^^ 4294967295 = r := by rw [Nat.xor_assoc, Nat.xor_self, Nat.xor_zero]
theorem extS_append (sum : Nat) (a b : List UInt8) : extS sum (a ++ b) = extS (extS sum a) b := by
  unfold extS; rw [flip_flip, ext_append]
theorem chk_append (a b : List UInt8) : chk (a ++ b) = extS (chk a) b := extS_append 0 a b
theorem extS_nil {sum : Nat} : extS sum [] = sum := by unfold extS; rw [ext, flip_flip]
theorem chk_nil : chk [] = 0 := extS_nil
/-- P9.8. -/
theorem chk_burst (p q : List UInt8) {x y : List UInt8} (hl : x.length = y.length) (h4 : x.length ≤ 4) (he : chk (p ++ (x ++ q)) = chk (p ++ (y ++ q))) : x = y := by
  unfold chk extS at he
  have h1 := xor_cancel he
  rw [ext_append, ext_append, ext_append, ext_append] at h1
  have h0 : (0 : Nat) ^^^ 4294967295 < 4294967296 := by decide
  have hp := ext_lt p h0
  exact ext_four hp hl h4 (ext_inj q (ext_lt x hp) (ext_lt y hp) h1)
theorem chk_one (p q : List UInt8) {x y : UInt8} (he : chk (p ++ x :: q) = chk (p ++ y :: q)) : x = y := by
  have h := chk_burst p q (x := [x]) (y := [y]) rfl (by simp) he
  cases h; rfl

/-! ### Frames -/
def four (n : Nat) : List UInt8 := [UInt8.ofNat (n / 16777216 % 256), UInt8.ofNat (n / 65536 % 256), UInt8.ofNat (n / 256 % 256), UInt8.ofNat (n % 256)]
theorem four_len (n : Nat) : (four n).length = 4 := rfl
theorem four_inj {a b : Nat} (ha : a < 4294967296) (hb : b < 4294967296) (h : four a = four b) : a = b := by
  unfold four at h
  have e : ∀ {x y : Nat}, UInt8.ofNat (x % 256) = UInt8.ofNat (y % 256) → x % 256 = y % 256 := by
    intro x y h
    have := congrArg UInt8.toNat h
    rwa [byte_of (by omega), byte_of (by omega)] at this
  simp only [List.cons.injEq, and_true] at h
  obtain ⟨h1, h2, h3, h4⟩ := h
  have := e h1
  have := e h2
  have := e h3
  have := e h4
  omega
def frame (l : List UInt8) : List UInt8 := encI (l.length : Int) ++ (l ++ four (chk l))
theorem frame_len {l : List UInt8} (h : l.length ≤ 1000000) : (frame l).length ≤ 14 + l.length := by
  have := encI_ten (len_isI h)
  unfold frame; simp only [List.length_append, four_len]; omega
structure OR where
  c : List UInt8
  k : Nat
  e : Int
def openR (b : List UInt8) : OR :=
  if (takeI b).e = 0 then
    (if (takeI b).x < 0 then ⟨[], 0, 3⟩
     else if 65536 < (takeI b).x then ⟨[], 0, 8⟩
     else if (b.length : Int) < ((takeI b).k : Int) + (takeI b).x + 4 then ⟨[], 0, 4⟩
     else if (b.drop ((takeI b).k + (takeI b).x.toNat)).take 4 = four (chk ((b.drop (takeI b).k).take (takeI b).x.toNat)) then ⟨(b.drop (takeI b).k).take (takeI b).x.toNat, (takeI b).k + (takeI b).x.toNat + 4, 0⟩
     else ⟨[], 0, 15⟩)
  else ⟨[], 0, (takeI b).e⟩
#print axioms chk_burst
#print axioms four_inj
end Go.Proofs.YtahgkohnamnljaaDoor.Crc
