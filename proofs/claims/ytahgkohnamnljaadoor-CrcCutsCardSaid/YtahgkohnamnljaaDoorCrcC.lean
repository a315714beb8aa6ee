/- Bits of a register, four bytes, bytes that are changed. Pure. -/
import Derived.Test.YtahgkohnamnljaaDoorCrcB
import Derived.Laws.BitsAllLaws
namespace Go.Proofs.YtahgkohnamnljaaDoor.Crc
open Go.ChangeShapes Go.WideShapes Go.RowKit
open Wire (encI takeI isI len_isI encI_ten encI_pos byte_of of_byte)
set_option linter.unusedVariables false
set_option maxRecDepth 100000

/-! ### Bits -/
theorem s1_even {r : Nat} (h : r % 2 = 0) : s1 r = r / 2 := by unfold s1; rw [if_neg (by omega), Nat.xor_zero]
theorem s1_odd {r : Nat} (h : r % 2 = 1) : s1 r = r / 2 ^^^ 3988292384 := by unfold s1; rw [if_pos h]
def it1 : Nat → Nat → Nat
  | 0, r => r
  | n + 1, r => s1 (it1 n r)
theorem it1_eight (r : Nat) : it1 8 r = s8 r := rfl
theorem it1_lt {r : Nat} (n : Nat) (h : r < 4294967296) : it1 n r < 4294967296 := by
  induction n with
  | zero => exact h
  | succ n ih => exact s1_lt ih
theorem and_one {r : Nat} (h : r < 4294967296) : bits .and .u32 (r : Int) 1 = ((r % 2 : Nat) : Int) := by
  have := u32_and_nat r 1 h (by omega)
  rw [Nat.and_one_is_mod] at this; exact this
theorem xor_poly {r : Nat} (h : r < 4294967296) (ho : r % 2 = 1) : bits .xor .u32 ((r : Int) / 2) 3988292384 = ((s1 r : Nat) : Int) := by
  have := u32_xor_nat (r / 2) 3988292384 (by omega) (by omega)
  rw [s1_odd ho]; exact this
theorem xor_byte {r : Nat} (b : UInt8) (h : r < 4294967296) : bits .xor .u32 (r : Int) (b.toNat : Int) = ((r ^^^ b.toNat : Nat) : Int) :=
  u32_xor_nat r b.toNat h (by have := UInt8.toNat_lt b; omega)
theorem xor_flip {r : Nat} (h : r < 4294967296) : bits .xor .u32 (r : Int) 4294967295 = ((r ^^^ 4294967295 : Nat) : Int) :=
  u32_xor_nat r 4294967295 h (by omega)
theorem flip_xor {r : Nat} (h : r < 4294967296) : bits .xor .u32 4294967295 (r : Int) = ((r ^^^ 4294967295 : Nat) : Int) := by
  have := u32_xor_nat 4294967295 r (by omega) h
  rw [Nat.xor_comm] at this; exact this
theorem and_255 {r : Nat} (h : r < 4294967296) : bits .and .u32 (r : Int) 255 = ((r % 256 : Nat) : Int) := by
  have := u32_and_nat r 255 h (by omega)
  rw [show (255 : Nat) = 2 ^ 8 - 1 from rfl, Nat.and_two_pow_sub_one_eq_mod] at this; exact this
theorem wrap_low (r : Nat) : IntKind.u8.wrap (r : Int) = ((r % 256 : Nat) : Int) := by rw [IntKind.wrap_u8']; omega
theorem xor_bytes (a b : UInt8) : bits .xor .u8 (a.toNat : Int) (b.toNat : Int) = (((a ^^^ b).toNat : Nat) : Int) := by
  have h1 := UInt8.toNat_lt a
  have h2 := UInt8.toNat_lt b
  rw [u8_xor_nat _ _ (by omega) (by omega), UInt8.toNat_xor]
theorem ext_step (r : Nat) (l : List UInt8) {k : Nat} {b : UInt8} (h : l[k]? = some b) : ext r (l.take (k + 1)) = s8 (ext r (l.take k) ^^^ b.toNat) := by
  rw [Wire.take_snoc_of h, ext_append]; rfl

/-! ### Bytes that are changed (P9.8) -/
/-- Each byte with the byte beside it. -/
def mix : List UInt8 → List UInt8 → List UInt8
  | b :: l, x :: X => (b ^^^ x) :: mix l X
  | l, [] => l
  | [], _ :: _ => []
theorem mix_nil (l : List UInt8) : mix l [] = l := by cases l <;> rfl
theorem mix_len : ∀ (l X : List UInt8), (mix l X).length = l.length := by
  intro l
  induction l with
  | nil => intro X; cases X <;> rfl
  | cons b l ih => intro X; cases X with
    | nil => rfl
    | cons x X => simp [mix, ih]
theorem xor_zero_iff (b x : UInt8) : b ^^^ x = b ↔ x = 0 := by
  constructor
  · intro h
    have h1 := congrArg UInt8.toNat h
    rw [UInt8.toNat_xor] at h1
    have h2 : x.toNat = 0 := by
      have h3 : b.toNat ^^^ (b.toNat ^^^ x.toNat) = b.toNat ^^^ b.toNat := by rw [h1]
      rwa [← Nat.xor_assoc, Nat.xor_self, Nat.zero_xor] at h3
    exact UInt8.toNat_inj.mp h2
  · rintro rfl
    apply UInt8.toNat_inj.mp
    rw [UInt8.toNat_xor]; exact Nat.xor_zero _
/-- What is mixed, and what stands behind it. -/
theorem mix_split : ∀ (l X : List UInt8), ∃ y, y.length = (l.take X.length).length ∧ mix l X = y ++ l.drop X.length ∧ (y = l.take X.length ↔ (X.take l.length).all (· == 0) = true) := by
  intro l
  induction l with
  | nil => intro X; refine ⟨[], by simp, by cases X <;> simp [mix], by simp⟩
  | cons b l ih =>
    intro X
    cases X with
    | nil => exact ⟨[], by simp, by simp [mix], by simp⟩
    | cons x X =>
      obtain ⟨y, h1, h2, h3⟩ := ih X
      refine ⟨(b ^^^ x) :: y, by simpa using h1, by simp [mix, h2], ?_⟩
      simp only [List.length_cons, List.take_succ_cons, List.cons.injEq, List.all_cons, Bool.and_eq_true, beq_iff_eq, xor_zero_iff, h3]
theorem chk_mix (p r : List UInt8) {X : List UInt8} (h4 : X.length ≤ 4) : chk (p ++ mix r X) = chk (p ++ r) ↔ (X.take r.length).all (· == 0) = true := by
  obtain ⟨y, h1, h2, h3⟩ := mix_split r X
  rw [← h3, h2]
  constructor
  · intro h
    refine chk_burst p (r.drop X.length) h1 (by rw [h1, List.length_take]; omega) ?_
    rw [List.take_append_drop]; exact h
  · rintro rfl
    rw [List.take_append_drop]
theorem mix_at : ∀ (r X : List UInt8) (k : Nat), X.length ≤ k → (mix r X)[k]? = r[k]? := by
  intro r
  induction r with
  | nil => intro X k _; cases X <;> rfl
  | cons b r ih =>
    intro X k h
    cases X with
    | nil => rfl
    | cons x X =>
      cases k with
      | zero => simp at h
      | succ k => simpa [mix] using ih X k (by simpa using h)
theorem mix_set : ∀ (r X : List UInt8) (k : Nat) {b x : UInt8}, r[k]? = some b → X[k]? = some x → (mix r (X.take k)).set k (b ^^^ x) = mix r (X.take (k + 1)) := by
  intro r
  induction r with
  | nil => intro X k b x h _; simp at h
  | cons c r ih =>
    intro X k b x h hx
    cases X with
    | nil => simp at hx
    | cons z X =>
      cases k with
      | zero =>
        simp at h hx
        subst h; subst hx
        simp [mix, mix_nil]
      | succ k => simpa [mix] using ih X k (by simpa using h) (by simpa using hx)
/-- A step of the loop. -/
theorem mix_step (p r X : List UInt8) {k : Nat} {b x : UInt8} (h : r[k]? = some b) (hx : X[k]? = some x) : (p ++ mix r (X.take k)).set (p.length + k) (b ^^^ x) = p ++ mix r (X.take (k + 1)) := by
  rw [List.set_append_right _ _ (by omega), show p.length + k - p.length = k by omega, mix_set r X k h hx]
theorem mix_get (p r X : List UInt8) {k : Nat} (hX : X.length = k) : (p ++ mix r X)[p.length + k]? = r[k]? := by
  rw [List.getElem?_append_right (by omega), show p.length + k - p.length = k by omega, mix_at r X k (by omega)]

/-! ### A byte of a frame that is changed (P9.9) -/
theorem xor_ne {b x : UInt8} (h : x ≠ 0) : b ≠ b ^^^ x := fun e => h ((xor_zero_iff b x).mp e.symm)
theorem set_split {l : List UInt8} {i : Nat} {b : UInt8} (y : UInt8) (h : l[i]? = some b) : l = l.take i ++ b :: l.drop (i + 1) ∧ l.set i y = l.take i ++ y :: l.drop (i + 1) := by
  have hi := Wire.lt_get h
  constructor
  · rw [← Wire.drop_cons_of h, List.take_append_drop]
  · rw [List.set_eq_take_append_cons_drop, if_pos hi]
theorem open_set_behind {l : List UInt8} (hl : l.length ≤ 65536) {i : Nat} {b y : UInt8} (hi : (encI (l.length : Int)).length ≤ i) (h : (frame l)[i]? = some b) (hy : b ≠ y) : openR ((frame l).set i y) = ⟨[], 0, 15⟩ := by
  obtain ⟨d, rfl⟩ : ∃ d, i = (encI (l.length : Int)).length + d := ⟨i - (encI (l.length : Int)).length, by omega⟩
  unfold frame at h ⊢
  rw [List.getElem?_append_right (by omega), show (encI (l.length : Int)).length + d - (encI (l.length : Int)).length = d by omega] at h
  rw [List.set_append_right _ _ (by omega), show (encI (l.length : Int)).length + d - (encI (l.length : Int)).length = d by omega]
  obtain ⟨e1, e2⟩ := set_split y h
  rw [e2]
  exact open_behind hl e1 hy
theorem open_set_length {l : List UInt8} (hl : l.length ≤ 65536) {i : Nat} {b y : UInt8} (hi : i < (encI (l.length : Int)).length) (h : (frame l)[i]? = some b) (hy : b ≠ y) :
    ¬ (openR ((frame l).set i y)).e = 0 ∨ (openR ((frame l).set i y)).c.length ≠ l.length := by
  by_cases he : (openR ((frame l).set i y)).e = 0
  · right
    have hif := Wire.lt_get h
    refine open_length (c := []) (y := y) hi hl (by rw [List.length_set]) (fun j hj => List.getElem?_set_ne (by omega)) ?_ he
    rw [List.getElem?_set_self hif, h]
    intro e
    exact hy (Option.some.inj e).symm
  · exact Or.inl he
#print axioms chk_mix
#print axioms mix_step
#print axioms open_set_behind
#print axioms open_set_length
end Go.Proofs.YtahgkohnamnljaaDoor.Crc
