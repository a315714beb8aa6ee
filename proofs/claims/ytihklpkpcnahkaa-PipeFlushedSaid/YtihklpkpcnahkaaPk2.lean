/- Several texts in one: ZumA, ZumB, ZumF, ZumG, ZumH, Shelf, ZumC, ZumJ. -/
import Derived.Test.YtihklpkpcnahkaaRows
import Derived.WalkKit
import Derived.Lib.Hide
import Derived.WalkLawsBesides
import Derived.WalkSpells
import Derived.Outline
import Derived.Laws.Externs
import Derived.WalkSmall
import Derived.BigQuiet
import Derived.Deep.RegionWith
import Derived.Deep.QuietTactic
import Derived.Shelf.Small.Bits
import Derived.Shelf.Small.Wraps
import Derived.Shelf.Strconv.Itoa0
import Derived.Shelf.Bits.Mul64
import Derived.Ground.Names2Prog
import Derived.Shelf.Slices.SearchI
import Derived.Test.YtihklpkpcnahkaaProg
import Derived.Lib.ItoaNum
import Derived.Laws.Bits64b
/- Contracts of num.inRange, num.checked, num.Add, num.Sub, num.magnitude, num.signWord, num.signed and of their counterparts in the reference. -/
namespace Go.Proofs.Ytihklpkpcnahkaa.Num
open Go.ChangeShapes Go.WideShapes Go.RowKit
set_option linter.unusedVariables false

/-- n is from -2^50 to 2^50. -/
def InR (n : Int) : Prop := -1125899906842624 ≤ n ∧ n ≤ 1125899906842624
instance (n : Int) : Decidable (InR n) := inferInstanceAs (Decidable (_ ∧ _))
theorem inr_mk {n : Int} (h1 : -1125899906842624 ≤ n) (h2 : n ≤ 1125899906842624) : InR n := ⟨h1, h2⟩
theorem inr_not {n : Int} (h : n < -1125899906842624 ∨ 1125899906842624 < n) : ¬ InR n := by unfold InR; omega

theorem num_in_yes (n : Int) (w : World) (h1 : -1125899906842624 ≤ n) (h2 : n ≤ 1125899906842624) :
    Calls Try.prog 45 #[.int .i64 n] w fun e w' => e = .returned (.bool true) ∧ w = w' := by
  go_enter Try.func45, Try.ntmps45
  go_wp2
  go_ret
  exact ⟨rfl, rfl⟩

theorem num_in_no (n : Int) (w : World) (h : n < -1125899906842624 ∨ 1125899906842624 < n) :
    Calls Try.prog 45 #[.int .i64 n] w fun e w' => e = .returned (.bool false) ∧ w = w' := by
  rcases h with h | h
  · go_enter Try.func45, Try.ntmps45
    go_wp2
    go_ret
    exact ⟨rfl, rfl⟩
  · have h1 : -1125899906842624 ≤ n := by omega
    have h2 : decide (n ≤ 1125899906842624) = false := by simpa using h
    go_enter Try.func45, Try.ntmps45
    go_wp2
    go_ret
    exact ⟨rfl, rfl⟩

theorem ref_in_yes (n : Int) (w : World) (h1 : -1125899906842624 ≤ n) (h2 : n ≤ 1125899906842624) :
    Calls Try.prog 51 #[.int .i64 n] w fun e w' => e = .returned (.bool true) ∧ w = w' := by
  go_enter Try.func51, Try.ntmps51
  go_wp2
  go_ret
  exact ⟨rfl, rfl⟩

theorem ref_in_no (n : Int) (w : World) (h : n < -1125899906842624 ∨ 1125899906842624 < n) :
    Calls Try.prog 51 #[.int .i64 n] w fun e w' => e = .returned (.bool false) ∧ w = w' := by
  rcases h with h | h
  · go_enter Try.func51, Try.ntmps51
    go_wp2
    go_ret
    exact ⟨rfl, rfl⟩
  · have h1 : -1125899906842624 ≤ n := by omega
    have h2 : decide (n ≤ 1125899906842624) = false := by simpa using h
    go_enter Try.func51, Try.ntmps51
    go_wp2
    go_ret
    exact ⟨rfl, rfl⟩

/-- The same as a Bool. -/
def inB (n : Int) : Bool := decide (InR n)
theorem inB_yes {n : Int} (h1 : -1125899906842624 ≤ n) (h2 : n ≤ 1125899906842624) : inB n = true := decide_eq_true (inr_mk h1 h2)
theorem inB_no {n : Int} (h : n < -1125899906842624 ∨ 1125899906842624 < n) : inB n = false := decide_eq_false (inr_not h)
theorem inB_cases (n : Int) : (inB n = true ∧ -1125899906842624 ≤ n ∧ n ≤ 1125899906842624) ∨ (inB n = false ∧ ¬ InR n) := by
  by_cases h : InR n
  · exact Or.inl ⟨decide_eq_true h, h⟩
  · exact Or.inr ⟨decide_eq_false h, h⟩

theorem num_in (n : Int) (w : World) : Calls Try.prog 45 #[.int .i64 n] w fun e w' => e = .returned (.bool (inB n)) ∧ w = w' := by
  by_cases h : -1125899906842624 ≤ n ∧ n ≤ 1125899906842624
  · exact (num_in_yes n w h.1 h.2).mono fun e w' k => by rw [inB_yes h.1 h.2]; exact k
  · exact (num_in_no n w (by omega)).mono fun e w' k => by rw [inB_no (by omega)]; exact k

theorem ref_in (n : Int) (w : World) : Calls Try.prog 51 #[.int .i64 n] w fun e w' => e = .returned (.bool (inB n)) ∧ w = w' := by
  by_cases h : -1125899906842624 ≤ n ∧ n ≤ 1125899906842624
  · exact (ref_in_yes n w h.1 h.2).mono fun e w' k => by rw [inB_yes h.1 h.2]; exact k
  · exact (ref_in_no n w (by omega)).mono fun e w' k => by rw [inB_no (by omega)]; exact k

/-- What a checked result is: the value, and the error. -/
def okV (n : Int) : Int := if InR n then n else 0
def okE (n : Int) : Int := if InR n then 0 else 2
theorem okV_yes {n : Int} (h1 : -1125899906842624 ≤ n) (h2 : n ≤ 1125899906842624) : okV n = n := if_pos (inr_mk h1 h2)
theorem okE_yes {n : Int} (h1 : -1125899906842624 ≤ n) (h2 : n ≤ 1125899906842624) : okE n = 0 := if_pos (inr_mk h1 h2)
theorem okV_no {n : Int} (h : n < -1125899906842624 ∨ 1125899906842624 < n) : okV n = 0 := if_neg (inr_not h)
theorem okE_no {n : Int} (h : n < -1125899906842624 ∨ 1125899906842624 < n) : okE n = 2 := if_neg (inr_not h)
theorem ret_int {k : IntKind} {a b : Int} (h : a = b) : Ending.returned (.int k a) = .returned (.int k b) := by rw [h]
theorem ret_two {a b c d : Int} (h : a = c) (k : b = d) : Ending.returned (.tuple #[.int .i64 a, .int .i64 b]) = .returned (.tuple #[.int .i64 c, .int .i64 d]) := by rw [h, k]

theorem num_checked (n : Int) (w : World) :
    Calls Try.prog 57 #[.int .i64 n] w fun e w' => e = .returned (.tuple #[.int .i64 (okV n), .int .i64 (okE n)]) ∧ w = w' := by
  by_cases h : -1125899906842624 ≤ n ∧ n ≤ 1125899906842624
  · obtain ⟨h1, h2⟩ := h
    go_enter Try.func57, Try.ntmps57
    go_wp2_with (go_at_call 45; refine (num_in_yes _ _ h1 h2).mono ?_; rintro e w' ⟨rfl, rfl⟩)
    go_ret2
    exact ⟨ret_two (okV_yes h1 h2).symm (okE_yes h1 h2).symm, rfl⟩
  · have h' : n < -1125899906842624 ∨ 1125899906842624 < n := by omega
    have H := Lib.hid h'
    clear h h'
    go_enter Try.func57, Try.ntmps57
    go_wp2_with (go_at_call 45; refine (num_in_no _ _ H.out).mono ?_; rintro e w' ⟨rfl, rfl⟩)
    go_ret2
    exact ⟨ret_two (okV_no H.out).symm (okE_no H.out).symm, rfl⟩

theorem ref_result (n : Int) (w : World) :
    Calls Try.prog 54 #[.int .i64 n] w fun e w' => e = .returned (.tuple #[.int .i64 (okV n), .int .i64 (okE n)]) ∧ w = w' := by
  by_cases h : -1125899906842624 ≤ n ∧ n ≤ 1125899906842624
  · obtain ⟨h1, h2⟩ := h
    go_enter Try.func54, Try.ntmps54
    go_wp2_with (go_at_call 51; refine (ref_in_yes _ _ h1 h2).mono ?_; rintro e w' ⟨rfl, rfl⟩)
    go_ret2
    exact ⟨ret_two (okV_yes h1 h2).symm (okE_yes h1 h2).symm, rfl⟩
  · have h' : n < -1125899906842624 ∨ 1125899906842624 < n := by omega
    have H := Lib.hid h'
    clear h h'
    go_enter Try.func54, Try.ntmps54
    go_wp2_with (go_at_call 51; refine (ref_in_no _ _ H.out).mono ?_; rintro e w' ⟨rfl, rfl⟩)
    go_ret2
    exact ⟨ret_two (okV_no H.out).symm (okE_no H.out).symm, rfl⟩

theorem num_magnitude (n : Int) (w : World) (h1 : -1125899906842624 ≤ n) (h2 : n ≤ 1125899906842624) :
    Calls Try.prog 64 #[.int .i64 n] w fun e w' => e = .returned (.int .u64 (n.natAbs : Int)) ∧ w = w' := by
  by_cases h : n < 0
  · go_enter Try.func64, Try.ntmps64
    go_wp2
    go_ret
    exact ⟨ret_int (by omega), rfl⟩
  · go_enter Try.func64, Try.ntmps64
    go_wp2
    go_ret
    exact ⟨ret_int (by omega), rfl⟩

theorem ref_abs (n : Int) (w : World) (h1 : -9223372036854775807 ≤ n) (h2 : n ≤ 9223372036854775807) :
    Calls Try.prog 53 #[.int .i64 n] w fun e w' => e = .returned (.int .i64 (n.natAbs : Int)) ∧ w = w' := by
  by_cases h : n < 0
  · go_enter Try.func53, Try.ntmps53
    go_wp2
    go_ret
    exact ⟨ret_int (by omega), rfl⟩
  · go_enter Try.func53, Try.ntmps53
    go_wp2
    go_ret
    exact ⟨ret_int (by omega), rfl⟩

end Go.Proofs.Ytihklpkpcnahkaa.Num
/- Contracts of num.Add, num.Sub, num.signed, num.signWord, and of Add and Sub of the reference. -/
namespace Go.Proofs.Ytihklpkpcnahkaa.Num
open Go.ChangeShapes Go.WideShapes Go.RowKit
set_option linter.unusedVariables false

/-- The result r of two arguments a and b: r, or the error of the arguments, or the error of the result. -/
def rngV (a b r : Int) : Int := if InR a ∧ InR b then okV r else 0
def rngE (a b r : Int) : Int := if InR a ∧ InR b then okE r else 1
theorem rngV_yes {a b : Int} (r : Int) (h1 : -1125899906842624 ≤ a) (h2 : a ≤ 1125899906842624) (h3 : -1125899906842624 ≤ b) (h4 : b ≤ 1125899906842624) : rngV a b r = okV r := if_pos ⟨⟨h1, h2⟩, ⟨h3, h4⟩⟩
theorem rngE_yes {a b : Int} (r : Int) (h1 : -1125899906842624 ≤ a) (h2 : a ≤ 1125899906842624) (h3 : -1125899906842624 ≤ b) (h4 : b ≤ 1125899906842624) : rngE a b r = okE r := if_pos ⟨⟨h1, h2⟩, ⟨h3, h4⟩⟩
theorem rngV_no1 {a : Int} (b r : Int) (h : ¬ InR a) : rngV a b r = 0 := if_neg (fun k => h k.1)
theorem rngE_no1 {a : Int} (b r : Int) (h : ¬ InR a) : rngE a b r = 1 := if_neg (fun k => h k.1)
theorem rngV_no2 {b : Int} (a r : Int) (h : ¬ InR b) : rngV a b r = 0 := if_neg (fun k => h k.2)
theorem rngE_no2 {b : Int} (a r : Int) (h : ¬ InR b) : rngE a b r = 1 := if_neg (fun k => h k.2)

/-- signed: a magnitude m and a sign. -/
theorem num_signed_pos (m : Nat) (w : World) (hm : m < 18446744073709551616) :
    Calls Try.prog 67 #[.int .u64 (m : Int), .bool false] w fun e w' => e = .returned (.tuple #[.int .i64 (okV (m : Int)), .int .i64 (okE (m : Int))]) ∧ w = w' := by
  by_cases h : 1125899906842624 < (m : Int)
  · go_enter Try.func67, Try.ntmps67
    go_wp2
    go_ret2
    exact ⟨ret_two (okV_no (by omega)).symm (okE_no (by omega)).symm, rfl⟩
  · have h2 : (m : Int) ≤ 1125899906842624 := by omega
    go_enter Try.func67, Try.ntmps67
    go_wp2
    go_ret2
    exact ⟨ret_two (okV_yes (by omega) (by omega)).symm (okE_yes (by omega) (by omega)).symm, rfl⟩

theorem num_signed_neg (m : Nat) (w : World) (hm : m < 18446744073709551616) :
    Calls Try.prog 67 #[.int .u64 (m : Int), .bool true] w fun e w' => e = .returned (.tuple #[.int .i64 (okV (-(m : Int))), .int .i64 (okE (-(m : Int)))]) ∧ w = w' := by
  by_cases h : 1125899906842624 < (m : Int)
  · go_enter Try.func67, Try.ntmps67
    go_wp2
    go_ret2
    exact ⟨ret_two (okV_no (by omega)).symm (okE_no (by omega)).symm, rfl⟩
  · have h2 : (m : Int) ≤ 1125899906842624 := by omega
    go_enter Try.func67, Try.ntmps67
    go_wp2
    go_ret2
    exact ⟨ret_two (okV_yes (by omega) (by omega)).symm (okE_yes (by omega) (by omega)).symm, rfl⟩

/-- The high word of n in two's complement. -/
def signW (n : Int) : Int := if n < 0 then 18446744073709551615 else 0
theorem num_signWord (n : Int) (w : World) :
    Calls Try.prog 56 #[.int .i64 n] w fun e w' => e = .returned (.int .u64 (signW n)) ∧ w = w' := by
  by_cases h : n < 0
  · go_enter Try.func56, Try.ntmps56
    go_wp2
    go_ret
    exact ⟨ret_int (if_pos h).symm, rfl⟩
  · go_enter Try.func56, Try.ntmps56
    go_wp2
    go_ret
    exact ⟨ret_int (if_neg (by omega)).symm, rfl⟩
end Go.Proofs.Ytihklpkpcnahkaa.Num
/- Contracts of num's wide integers: plus and narrow. -/
namespace Go.Proofs.Ytihklpkpcnahkaa.Num
open Go.ChangeShapes Go.WideShapes Go.RowKit
set_option linter.unusedVariables false

/-- math/bits.Add64 at this program. -/
theorem bits_add64 (x y c : Int) (hx : 0 ≤ x) (hy : 0 ≤ y) (hc0 : 0 ≤ c) (hc : c ≤ 1) (w : World) :
    (callFunc 55 #[.int .u64 x, .int .u64 y, .int .u64 c]).run Try.prog w =
      .ok (.value (.tuple #[.int .u64 ((x + y + c) % 18446744073709551616), .int .u64 ((x + y + c) / 18446744073709551616)])) w := by
  rw [run_callFunc_extern Try.func55 (by kernel_rfl) (by kernel_rfl) (by kernel_rfl) (e := add64Entry) (by kernel_rfl), run_add64 x y c hx hy hc0 hc]
  rfl

/-- The words of s in two's complement, and what adding n makes of them. -/
def hiW (s : Int) : Int := s / 18446744073709551616 % 18446744073709551616
def loW (s : Int) : Int := s % 18446744073709551616
theorem hiW_bd (s : Int) : 0 ≤ hiW s ∧ hiW s < 18446744073709551616 := by unfold hiW; omega
theorem loW_bd (s : Int) : 0 ≤ loW s ∧ loW s < 18446744073709551616 := by unfold loW; omega
theorem signW_bd (n : Int) : 0 ≤ signW n ∧ signW n < 18446744073709551616 := by unfold signW; split <;> omega
def carW (s n : Int) : Int := (loW s + n % 18446744073709551616 + 0) / 18446744073709551616
def carW2 (s n : Int) : Int := (hiW s + signW n + carW s n) / 18446744073709551616
theorem loW_add (s n : Int) : (loW s + n % 18446744073709551616 + 0) % 18446744073709551616 = loW (s + n) := by unfold loW; omega
theorem hiW_add (s n : Int) (h1 : -9223372036854775808 ≤ n) (h2 : n ≤ 9223372036854775807) :
    (hiW s + signW n + carW s n) % 18446744073709551616 = hiW (s + n) := by
  unfold hiW carW loW signW
  split <;> omega
theorem add_low (s n : Int) (w : World) :
    (callFunc 55 #[.int .u64 (loW s), .int .u64 (IntKind.u64.wrap n), .int .u64 0]).run Try.prog w = .ok (.value (.tuple #[.int .u64 (loW (s + n)), .int .u64 (carW s n)])) w := by
  have e : IntKind.u64.wrap n = n % 18446744073709551616 := by rw [IntKind.wrap_u64]
  have b := loW_bd s
  rw [e, bits_add64 _ _ _ b.1 (by omega) (by omega) (by omega), loW_add]
  rfl
theorem add_high (s n : Int) (w : World) (h1 : -9223372036854775808 ≤ n) (h2 : n ≤ 9223372036854775807) :
    (callFunc 55 #[.int .u64 (hiW s), .int .u64 (signW n), .int .u64 (carW s n)]).run Try.prog w = .ok (.value (.tuple #[.int .u64 (hiW (s + n)), .int .u64 (carW2 s n)])) w := by
  have b := hiW_bd s
  have c := signW_bd n
  have l := loW_bd s
  rw [bits_add64 _ _ _ b.1 c.1 (by unfold carW; omega) (by unfold carW; omega), hiW_add s n h1 h2]
  rfl

set_option maxHeartbeats 400000 in
theorem num_plus (s n : Int) (w : World) (h1 : -1125899906842624 ≤ n) (h2 : n ≤ 1125899906842624) :
    Calls Try.prog 46 #[.agg #[.int .u64 (hiW s), .int .u64 (loW s)], .int .i64 n] w fun e w' => e = .returned (.agg #[.int .u64 (hiW (s + n)), .int .u64 (loW (s + n))]) ∧ Below w.heap.size w w' := by
  have ha := add_low s n
  have hb := fun W => add_high s n W (by omega) (by omega)
  have hbl : Below w.heap.size w (((w.alloc (.cells #[.int .u64 (hiW s), .int .u64 (loW s)] 68)).alloc (.cells #[.int .u64 0, .int .u64 0] 68)).alloc (.cells #[.int .u64 0, .int .u64 (loW (s + n))] 68)) :=
    (((Below.refl _ _).alloc (Nat.le_refl _) _).alloc (by simp) _).alloc (by simp; omega) _
  go_enter Try.func46, Try.ntmps46
  go_wp2_with fail
  go_region_with (go_at_call 56; refine (num_signWord n _).mono ?_; rintro e w' ⟨rfl, rfl⟩)
  all_goals go_wp2
  all_goals exact bodyPost_ret (v := .agg #[.int .u64 (hiW (s + n)), .int .u64 (loW (s + n))]) (by simp [results, Try.results46, go_sem]) rfl ⟨rfl, ((((Below.refl _ _).alloc (Nat.le_refl _) _).alloc (by simp) _).alloc (by simp; omega) _).drew⟩

theorem wrap_small {s : Int} (h1 : -9223372036854775808 ≤ s) (h2 : s ≤ 9223372036854775807) : wrap64 (loW s) = s := by unfold wrap64 loW; omega
theorem hi_small {s : Int} (h1 : -9223372036854775808 ≤ s) (h2 : s ≤ 9223372036854775807) : (hiW s != signW s) = false := by
  have e : hiW s = signW s := by unfold hiW signW; split <;> omega
  rw [e]; simp
theorem hi_big {s : Int} (h1 : s < -9223372036854775808 ∨ 9223372036854775807 < s) (h2 : -85070591730234615865843651857942052864 ≤ s) (h3 : s ≤ 85070591730234615865843651857942052864) : (hiW s != signW (wrap64 (loW s))) = true := by
  have e : ¬ hiW s = signW (wrap64 (loW s)) := by unfold hiW signW wrap64 loW; split <;> omega
  simpa using e

theorem num_narrow (s : Int) (w : World) (h2 : -85070591730234615865843651857942052864 ≤ s) (h3 : s ≤ 85070591730234615865843651857942052864) :
    Calls Try.prog 47 #[.agg #[.int .u64 (hiW s), .int .u64 (loW s)]] w fun e w' => e = .returned (.tuple #[.int .i64 (okV s), .int .i64 (okE s)]) ∧ Below w.heap.size w w' := by
  by_cases hs : -9223372036854775808 ≤ s ∧ s ≤ 9223372036854775807
  · have e1 := wrap_small hs.1 hs.2
    have e2 := hi_small hs.1 hs.2
    clear hs h2 h3
    go_enter Try.func47, Try.ntmps47
    go_wp2_with fail
    go_quiet ((go_at_call 56; exact Calls.quiet_of_same ((num_signWord _ _).mono fun _ _ k => ⟨k.1, k.2.symm⟩)))
    go_wp2_with (go_at_call 57; refine (num_checked _ _).mono ?_; rintro e w' ⟨rfl, rfl⟩)
    go_ret2
    exact ⟨rfl, below_drewN ((Below.refl _ _).alloc (Nat.le_refl _) _) _⟩
  · have e2 := hi_big (s := s) (by omega) h2 h3
    have HS := Lib.hid hs
    clear hs
    go_enter Try.func47, Try.ntmps47
    go_wp2_with fail
    go_quiet ((go_at_call 56; exact Calls.quiet_of_same ((num_signWord _ _).mono fun _ _ k => ⟨k.1, k.2.symm⟩)))
    go_wp2
    go_ret2
    have hh := HS.out
    exact ⟨ret_two (okV_no (by omega)).symm (okE_no (by omega)).symm, below_drewN ((Below.refl _ _).alloc (Nat.le_refl _) _) _⟩
end Go.Proofs.Ytihklpkpcnahkaa.Num
/- Lists of integers: totals, and slices that hold them. No walk. -/
namespace Go.Proofs.Ytihklpkpcnahkaa.Num
open Go.ChangeShapes Go.WideShapes Go.RowKit
set_option linter.unusedVariables false

def tot : List Int → Int
  | [] => 0
  | a :: l => a + tot l
theorem tot_snoc (l : List Int) (z : Int) : tot (l ++ [z]) = tot l + z := by
  induction l with
  | nil => simp [tot]
  | cons a l ih => simp only [List.cons_append, tot, ih]; omega
theorem tot_append (l m : List Int) : tot (l ++ m) = tot l + tot m := by
  induction l with
  | nil => simp [tot]
  | cons a l ih => simp only [List.cons_append, tot, ih]; omega
theorem tot_reverse (l : List Int) : tot l.reverse = tot l := by
  induction l with
  | nil => rfl
  | cons a l ih => rw [List.reverse_cons, tot_snoc, ih]; simp only [tot]; omega
def allIn (l : List Int) : Bool := l.all inB
theorem allIn_snoc (l : List Int) (z : Int) : allIn (l ++ [z]) = (allIn l && inB z) := by simp [allIn]
theorem allIn_reverse (l : List Int) : allIn l.reverse = allIn l := by simp [allIn]
theorem inB_iff {n : Int} (h : inB n = true) : -1125899906842624 ≤ n ∧ n ≤ 1125899906842624 := of_decide_eq_true h
theorem tot_bound (l : List Int) (h : allIn l = true) : -(1125899906842624 * (l.length : Int)) ≤ tot l ∧ tot l ≤ 1125899906842624 * (l.length : Int) := by
  induction l with
  | nil => simp [tot]
  | cons a l ih =>
    simp only [allIn, List.all_cons, Bool.and_eq_true] at h
    have h1 := inB_iff h.1
    have h2 := ih h.2
    simp only [tot, List.length_cons]
    omega
theorem take_snoc_of {l : List Int} {k : Nat} {z : Int} (h : l[k]? = some z) : l.take (k + 1) = l.take k ++ [z] := by
  rw [List.take_add_one, h]; rfl

/-- The sum, or the error. -/
def sumV (l : List Int) : Int := if 65536 < l.length then 0 else if allIn l = true then okV (tot l) else 0
def sumE (l : List Int) : Int := if 65536 < l.length then 8 else if allIn l = true then okE (tot l) else 1
theorem sumV_long {l : List Int} (h : 65536 < l.length) : sumV l = 0 := if_pos h
theorem sumE_long {l : List Int} (h : 65536 < l.length) : sumE l = 8 := if_pos h
theorem sumV_all {l : List Int} (h : l.length ≤ 65536) (ha : allIn l = true) : sumV l = okV (tot l) := by unfold sumV; rw [if_neg (by omega), if_pos ha]
theorem sumE_all {l : List Int} (h : l.length ≤ 65536) (ha : allIn l = true) : sumE l = okE (tot l) := by unfold sumE; rw [if_neg (by omega), if_pos ha]
theorem not_all {l : List Int} {k : Nat} {z : Int} (hz : l[k]? = some z) (hi : inB z = false) : ¬ allIn l = true := by
  intro h
  simp only [allIn, List.all_eq_true] at h
  have := h z (List.mem_of_getElem? hz)
  rw [hi] at this; cases this
theorem sumV_out {l : List Int} (h : l.length ≤ 65536) (ha : ¬ allIn l = true) : sumV l = 0 := by unfold sumV; rw [if_neg (by omega), if_neg ha]
theorem sumE_out {l : List Int} (h : l.length ≤ 65536) (ha : ¬ allIn l = true) : sumE l = 1 := by unfold sumE; rw [if_neg (by omega), if_neg ha]
theorem sumV_reverse (l : List Int) : sumV l.reverse = sumV l := by simp only [sumV, List.length_reverse, allIn_reverse, tot_reverse]
theorem sumE_reverse (l : List Int) : sumE l.reverse = sumE l := by simp only [sumE, List.length_reverse, allIn_reverse, tot_reverse]

/-- The parts of z that the reference adds up. -/
def th (z : Int) : Int := z.tdiv 33554432
def tl (z : Int) : Int := z.tmod 33554432
theorem th_tl (z : Int) : z = th z * 33554432 + tl z := by unfold th tl; have := Int.tdiv_mul_add_tmod z 33554432; omega
theorem tl_bd (z : Int) : -33554432 < tl z ∧ tl z < 33554432 := by
  unfold tl
  rcases Int.lt_or_le z 0 with h | h
  · have e : z = -(-z) := by omega
    rw [e, Int.neg_tmod, Int.tmod_eq_emod_of_nonneg (by omega)]; omega
  · rw [Int.tmod_eq_emod_of_nonneg h]; omega
theorem th_bd {z : Int} (h1 : -1125899906842624 ≤ z) (h2 : z ≤ 1125899906842624) : -33554432 ≤ th z ∧ th z ≤ 33554432 := by
  have a := th_tl z; have b := tl_bd z; omega
theorem tot_th (l : List Int) : tot l = tot (l.map th) * 33554432 + tot (l.map tl) := by
  induction l with
  | nil => simp [tot]
  | cons a l ih => have := th_tl a; simp only [List.map_cons, tot]; omega
theorem tot_tl_bd (l : List Int) : -(33554432 * (l.length : Int)) ≤ tot (l.map tl) ∧ tot (l.map tl) ≤ 33554432 * (l.length : Int) := by
  induction l with
  | nil => simp [tot]
  | cons a l ih => have := tl_bd a; simp only [List.map_cons, tot, List.length_cons]; omega
theorem tot_th_bd (l : List Int) (h : allIn l = true) : -(33554432 * (l.length : Int)) ≤ tot (l.map th) ∧ tot (l.map th) ≤ 33554432 * (l.length : Int) := by
  induction l with
  | nil => simp [tot]
  | cons a l ih =>
    simp only [allIn, List.all_cons, Bool.and_eq_true] at h
    have h1 := inB_iff h.1
    have h2 := ih h.2
    have h3 := th_bd h1.1 h1.2
    simp only [List.map_cons, tot, List.length_cons]
    omega

/-- The slice at A holds the integers zs, and lies below block B. -/
def Holds (w : World) (B : Nat) (A : Option Addr) (zs : List Int) : Prop :=
  ∀ k z, zs[k]? = some z → ∃ b off, A = some ⟨b, off, none⟩ ∧ b < B ∧ w.cell? ⟨b, off + k, none⟩ = some (.int .i64 z)
theorem Holds.below {w w' : World} {B : Nat} {A : Option Addr} {zs : List Int} (h : Holds w B A zs) (hb : Below B w w') : Holds w' B A zs := by
  intro k z hz
  obtain ⟨b, off, hA, hlt, hc⟩ := h k z hz
  exact ⟨b, off, hA, hlt, (hb.cell (p := ⟨b, off + k, none⟩) hlt).trans hc⟩
theorem Holds.more {w : World} {B B' : Nat} {A : Option Addr} {zs : List Int} (h : Holds w B A zs) (hB : B ≤ B') : Holds w B' A zs := by
  intro k z hz
  obtain ⟨b, off, hA, hlt, hc⟩ := h k z hz
  exact ⟨b, off, hA, by omega, hc⟩

/-- A block of two cells. -/
def Two (w : World) (g : Nat) (t : TypeId) (x y : Value) : Prop := w.heap[g]? = some (.cells #[x, y] t (0, 0))
theorem Two.cell0 {w : World} {g : Nat} {t : TypeId} {x y : Value} (h : Two w g t x y) : w.cell? ⟨g, 0, none⟩ = some x := cell_of_row w g 0 #[x, y] t (0, 0) h
theorem Two.cell1 {w : World} {g : Nat} {t : TypeId} {x y : Value} (h : Two w g t x y) : w.cell? ⟨g, 1, none⟩ = some y := cell_of_row w g 1 #[x, y] t (0, 0) h
theorem Two.frozen {w : World} {g : Nat} {t : TypeId} {x y : Value} (h : Two w g t x y) (i : Nat) : w.frozen? ⟨g, i, none⟩ = false := by
  unfold Two at h; simp [World.frozen?, h]
theorem Two.new (w : World) (t : TypeId) (x y : Value) : Two (w.alloc (.cells #[x, y] t)) w.heap.size t x y := heap_alloc_new w _
theorem Two.below {w w' : World} {g B : Nat} {t : TypeId} {x y : Value} (h : Two w g t x y) (hb : Below B w w') (hg : g < B) : Two w' g t x y := (hb.block g hg).trans h
theorem Two.store {w : World} {g : Nat} {t : TypeId} {x y : Value} (h : Two w g t x y) (x' y' : Value) : Two ((w.setCell ⟨g, 0, none⟩ x').setCell ⟨g, 1, none⟩ y') g t x' y' := by
  unfold Two at h ⊢
  simp [World.setCell, Array.getElem?_modify, h]
end Go.Proofs.Ytihklpkpcnahkaa.Num
/- Contracts of num.Sum and of Sum of the reference. -/
namespace Go.Proofs.Ytihklpkpcnahkaa.Num
open Go.ChangeShapes Go.WideShapes Go.RowKit
set_option linter.unusedVariables false

set_option maxHeartbeats 400000 in
theorem num_sum (zs : List Int) (A : Option Addr) (c : Nat) (w : World) (hS : Holds w w.heap.size A zs) (hlen : zs.length ≤ 9223372036854775807) :
    Calls Try.prog 38 #[.slice A zs.length c] w fun e w' => e = .returned (.tuple #[.int .i64 (sumV zs), .int .i64 (sumE zs)]) ∧ Below w.heap.size w w' := by
  by_cases hl : 65536 < zs.length
  · have hl' : 65536 < (zs.length : Int) := by omega
    go_enter Try.func38, Try.ntmps38
    go_wp2
    go_ret2
    exact ⟨ret_two (sumV_long hl).symm (sumE_long hl).symm, Below.refl _ _⟩
  · have hl' : (zs.length : Int) ≤ 65536 := by omega
    have hl2 : zs.length ≤ 65536 := by omega
    have hd : decide (65536 < (zs.length : Int)) = false := decide_eq_false (by omega)
    have HS := Lib.hid hS
    clear hS hl
    go_enter Try.func38, Try.ntmps38
    go_wp2_with fail
    go_loopw [6, 12] (fun _ i wr => ∃ k : Nat, k ≤ zs.length ∧ i = .int .i64 k ∧ allIn (zs.take k) = true ∧ Two wr w.heap.size 68 (.int .u64 (hiW (tot (zs.take k)))) (.int .u64 (loW (tot (zs.take k)))) ∧ Below w.heap.size w wr ∧ w.heap.size < wr.heap.size) (fun _ i _ => zs.length - (intOf i).toNat)
    case atStart => exact ⟨0, Nat.zero_le _, rfl, rfl, Two.new _ _ _ _, (Below.refl _ _).alloc (Nat.le_refl _) _, by simp⟩
    case round =>
      obtain ⟨k, hk, rfl, ha, hT, hbel, hsz⟩ := hrel
      have hbd := tot_bound _ ha
      have hll : (zs.take k).length ≤ k := List.length_take_le _ _
      have b1 : -85070591730234615865843651857942052864 ≤ tot (zs.take k) := by omega
      have b2 : tot (zs.take k) ≤ 85070591730234615865843651857942052864 := by omega
      have HA := Lib.hid ha
      have HT := Lib.hid hT
      have HB := Lib.hid hbel
      have hc0 := hT.cell0
      have hc1 := hT.cell1
      have hf0 := hT.frozen 0
      have hf1 := hT.frozen 1
      clear ha hT hbel hbd hll
      rcases Nat.lt_or_ge k zs.length with hlt | hge
      · obtain ⟨z, hz⟩ : ∃ z, zs[k]? = some z := ⟨_, List.getElem?_eq_getElem hlt⟩
        obtain ⟨b, off, rfl, hb, hcell⟩ := (HS.out.below HB.out) k z hz
        have HZ := Lib.hid hz
        clear hz
        rcases inB_cases z with ⟨hi, z1, z2⟩ | ⟨hi, nz⟩
        · go_wp2_with fail
          refine (num_in _ _).mono ?_
          rintro e w' ⟨rfl, rfl⟩
          go_wp2_with fail
          refine (num_plus _ _ _ z1 z2).mono ?_
          rintro e w1 ⟨rfl, hb1⟩
          have hT1 := HT.out.below hb1 hsz
          have hs1 : w.heap.size < w1.heap.size := Nat.lt_of_lt_of_le hsz hb1.size
          have g0 := hT1.cell0
          have g1 := hT1.cell1
          have k0 := hT1.frozen 0
          have k1 := hT1.frozen 1
          have HT1 := Lib.hid hT1
          have HB1 := Lib.hid hb1
          clear hT1 hb1 hc0 hc1 hf0 hf1
          go_wp2_with fail
          go_roundw
          case rel =>
            have e := take_snoc_of HZ.out
            have et := tot_snoc (zs.take k) z
            refine ⟨k + 1, by omega, by go_num, by rw [e, allIn_snoc, HA.out, hi]; rfl, by rw [e, et]; exact HT1.out.store _ _, ?_, by simp; exact hs1⟩
            exact ((HB.out.trans (HB1.out.mono (by omega))).setCell (Nat.le_refl _) _).setCell (Nat.le_refl _) _
          case measure => simp [intOf]; omega
        · have NZ := Lib.hid nz
          clear nz
          go_wp2_with fail
          refine (num_in _ _).mono ?_
          rintro e w' ⟨rfl, rfl⟩
          go_wp2_with fail
          go_ret2
          have hno := not_all HZ.out hi
          exact ⟨ret_two (sumV_out hl2 hno).symm (sumE_out hl2 hno).symm, HB.out⟩
      · obtain rfl : k = zs.length := by omega
        have hall : allIn zs = true := by have := HA.out; rwa [List.take_length] at this
        have HALL := Lib.hid hall
        clear hall
        have hT' := HT.out
        rw [List.take_length] at hT' b1 b2
        have hd0 := hT'.cell0
        have hd1 := hT'.cell1
        clear hc0 hc1 hT'
        go_wp2_with fail
        refine (num_narrow _ _ b1 b2).mono ?_
        rintro e w1 ⟨rfl, hb1⟩
        go_wp2_with fail
        go_ret2
        exact ⟨ret_two (sumV_all hl2 HALL.out).symm (sumE_all hl2 HALL.out).symm, HB.out.trans (hb1.mono (by omega))⟩
end Go.Proofs.Ytihklpkpcnahkaa.Num
/-
  DERIVED: THE SHELF's CONTRACTS AT THIS DUMP, IN PLAIN WORDS (tools/lay-plain.mjs out of 'TryShelf.lean', which tools/lay-shelf.mjs wrote): THE SAME DECLARATIONS UNDER THE SAME NAMES: 'import', 'namespace', 'open', 'def', 'theorem' AND NOTHING ELSE: no command of the shelf's: FOR A HAND-IN. Each laying: the table of numbers ('.._ren') and one theorem, a field a fact of the dump's own or the kernel's comparison; each contract: ONE APPLICATION.
-/
namespace Go.Proofs
open Go.Shelf
def Try.lays134_ren : Go.Shelf.Ren := ⟨fun | 134 => 71 | 129 => 74 | n => n, fun | 53 => 66 | 3 => 3 | 4 => 4 | 46 => 90 | 5 => 5 | 9 => 9 | n => n, fun | n => n⟩
theorem Try.lays134 : Go.Proofs.Lays.n134 Try.prog Try.lays134_ren := {
  mixed := by kernel_rfl
  f129 := Try.func74.trans (congrArg some (by kernel_rfl))
  f134 := Try.func71.trans (congrArg some (by kernel_rfl))
  t3 := Try.underlying3
  a3 := Try.isAgg3
  z3 := Try.sizeOf3
  v3 := Try.zeroValue3
  t4 := Try.underlying4
  a4 := Try.isAgg4
  z4 := Try.sizeOf4
  v4 := Try.zeroValue4
  t5 := Try.underlying5
  a5 := Try.isAgg5
  z5 := Try.sizeOf5
  v5 := Try.zeroValue5
  t9 := Try.underlying9
  a9 := Try.isAgg9
  z9 := Try.sizeOf9
  v9 := Try.zeroValue9
  t46 := Try.underlying90
  a46 := Try.isAgg90
  z46 := Try.sizeOf90
  v46 := Try.zeroValue90
  t53 := Try.underlying66
  a53 := Try.isAgg66
  z53 := Try.sizeOf66
  v53 := Try.zeroValue66 }
/-- bits.LeadingZeros64: "LeadingZeros64 returns the number of leading zero bits in x; the result is 64 for x == 0.": IT RETURNS '64 - Lib.bitLen x'; the world is as it was. ITS CALLEE bits.Len64 IS MET BY ITS OWN CONTRACT OFF THE SHELF (lay that first): entered in place it sends the kernel out of memory. (LAID: no walk: one application.) -/
theorem Try.bits_LeadingZeros64 (x : Int) (w : World) (h0 : 0 ≤ x) (h1 : x ≤ 18446744073709551615) :
    Calls Try.prog 71 #[.int .u64 x] w fun e w' => e = .returned (.int .i64 (64 - (Lib.bitLen x.toNat : Int))) ∧ w' = w := Any.bits_LeadingZeros64 Try.lays134 x w h0 h1
def Try.lays215_ren : Go.Shelf.Ren := ⟨fun | 215 => 69 | n => n, fun | 3 => 3 | 4 => 4 | n => n, fun | n => n⟩
theorem Try.lays215 : Go.Proofs.Lays.n215 Try.prog Try.lays215_ren := {
  mixed := by kernel_rfl
  f215 := Try.func69.trans (congrArg some (by kernel_rfl))
  t3 := Try.underlying3
  a3 := Try.isAgg3
  z3 := Try.sizeOf3
  v3 := Try.zeroValue3
  t4 := Try.underlying4
  a4 := Try.isAgg4
  z4 := Try.sizeOf4
  v4 := Try.zeroValue4 }
open Go.RowKit in
/-- cmp.isNaN at int: 'x != x': false. (LAID: no walk: one application.) -/
theorem Try.cmp_isNaN_int (x : Int) (w : World) :
    Calls Try.prog 69 #[.int .i64 x] w fun e w' => e = .returned (.bool false) ∧ w' = w := Any.cmp_isNaN_int Try.lays215 x w
def Try.lays122_ren : Go.Shelf.Ren := ⟨fun | 122 => 62 | 215 => 69 | n => n, fun | 3 => 3 | 4 => 4 | n => n, fun | n => n⟩
theorem Try.lays122 : Go.Proofs.Lays.n122 Try.prog Try.lays122_ren := {
  mixed := by kernel_rfl
  f122 := Try.func62.trans (congrArg some (by kernel_rfl))
  f215 := Try.func69.trans (congrArg some (by kernel_rfl))
  t3 := Try.underlying3
  a3 := Try.isAgg3
  z3 := Try.sizeOf3
  v3 := Try.zeroValue3
  t4 := Try.underlying4
  a4 := Try.isAgg4
  z4 := Try.sizeOf4
  v4 := Try.zeroValue4 }
open Go.RowKit in
/-- cmp.Compare at int: "Compare returns -1 if x is less than y, 0 if x equals y, +1 if x is greater than y.": IT RETURNS 'Lib.compareInt x y'; the world is as it was. (LAID: no walk: one application.) -/
theorem Try.cmp_Compare_int (x y : Int) (w : World) :
    Calls Try.prog 62 #[.int .i64 x, .int .i64 y] w fun e w' => e = .returned (.int .i64 (Lib.compareInt x y)) ∧ w' = w := Any.cmp_Compare_int Try.lays122 x y w
def Try.lays129_ren : Go.Shelf.Ren := ⟨fun | 129 => 74 | n => n, fun | 53 => 66 | 3 => 3 | 4 => 4 | 46 => 90 | 5 => 5 | 9 => 9 | n => n, fun | n => n⟩
theorem Try.lays129 : Go.Proofs.Lays.n129 Try.prog Try.lays129_ren := {
  mixed := by kernel_rfl
  f129 := Try.func74.trans (congrArg some (by kernel_rfl))
  t3 := Try.underlying3
  a3 := Try.isAgg3
  z3 := Try.sizeOf3
  v3 := Try.zeroValue3
  t4 := Try.underlying4
  a4 := Try.isAgg4
  z4 := Try.sizeOf4
  v4 := Try.zeroValue4
  t5 := Try.underlying5
  a5 := Try.isAgg5
  z5 := Try.sizeOf5
  v5 := Try.zeroValue5
  t9 := Try.underlying9
  a9 := Try.isAgg9
  z9 := Try.sizeOf9
  v9 := Try.zeroValue9
  t46 := Try.underlying90
  a46 := Try.isAgg90
  z46 := Try.sizeOf90
  v46 := Try.zeroValue90
  t53 := Try.underlying66
  a53 := Try.isAgg66
  z53 := Try.sizeOf66
  v53 := Try.zeroValue66 }
/-- bits.Len64: "Len64 returns the minimum number of bits required to represent x; the result is 0 for x == 0.": IT RETURNS 'Lib.bitLen x'; the world is as it was. ('h0', 'h1': x is a uint64.) (LAID: no walk: one application.) -/
theorem Try.bits_Len64 (x : Int) (w : World) (h0 : 0 ≤ x) (h1 : x ≤ 18446744073709551615) :
    Calls Try.prog 74 #[.int .u64 x] w fun e w' => e = .returned (.int .i64 (Lib.bitLen x.toNat)) ∧ w' = w := Any.bits_Len64 Try.lays129 x w h0 h1
def Try.lays264_ren : Go.Shelf.Ren := ⟨fun | 264 => 70 | n => n, fun | 53 => 66 | 46 => 90 | n => n, fun | n => n⟩
theorem Try.lays264 : Go.Proofs.Lays.n264 Try.prog Try.lays264_ren := {
  mixed := by kernel_rfl
  f264 := Try.func70.trans (congrArg some (by kernel_rfl))
  t46 := Try.underlying90
  a46 := Try.isAgg90
  z46 := Try.sizeOf90
  v46 := Try.zeroValue90
  t53 := Try.underlying66
  a53 := Try.isAgg66
  z53 := Try.sizeOf66
  v53 := Try.zeroValue66 }
open Go.RowKit Go.Lib in
theorem Try.bits_Mul64 (x y : Nat) (hx : x < 18446744073709551616) (hy : y < 18446744073709551616) (w : World) :
    Calls Try.prog 70 #[.int .u64 x, .int .u64 y] w fun e w' => e = .returned (.tuple #[.int .u64 ((x * y / 18446744073709551616 : Nat) : Int), .int .u64 ((x * y % 18446744073709551616 : Nat) : Int)]) ∧ w' = w := Any.bits_Mul64 Try.lays264 x y hx hy w
def Try.laysNm237_ren : Go.Shelf.Ren := ⟨fun | 37 => 69 | n => n, fun | 3 => 3 | 4 => 4 | n => n, fun | n => n⟩
theorem Try.laysNm237 : Go.Proofs.Lays2.n37 Try.prog Try.laysNm237_ren := {
  mixed := by kernel_rfl
  f37 := Try.func69.trans (congrArg some (by kernel_rfl))
  t3 := Try.underlying3
  a3 := Try.isAgg3
  z3 := Try.sizeOf3
  v3 := Try.zeroValue3
  t4 := Try.underlying4
  a4 := Try.isAgg4
  z4 := Try.sizeOf4
  v4 := Try.zeroValue4 }
open Go.RowKit Go.Lib in
/-- cmp.isNaN[int]: 'x != x': false. (LAID: no walk: one application.) -/
theorem Try.cmp_isNaN_int2 (x : Int) (w : World) :
    Calls Try.prog 69 #[.int .i64 x] w fun e w' => e = .returned (.bool false) ∧ w' = w := Any.cmp_isNaN_int2 Try.laysNm237 x w
end Go.Proofs
/- Contracts of num.product, num.Mul, and of Mul of the reference. -/
namespace Go.Proofs.Ytihklpkpcnahkaa.Num
open Go.ChangeShapes Go.WideShapes Go.RowKit
set_option linter.unusedVariables false

/-- The two words of the product of the magnitudes. -/
def mulHi (a b : Int) : Nat := a.natAbs * b.natAbs / 18446744073709551616
def mulLo (a b : Int) : Nat := a.natAbs * b.natAbs % 18446744073709551616
theorem mulLo_lt (a b : Int) : mulLo a b < 18446744073709551616 := Nat.mod_lt _ (by omega)
theorem mulLo_of {a b : Int} (h : mulHi a b = 0) : mulLo a b = (a * b).natAbs := by
  unfold mulHi at h; unfold mulLo; rw [Int.natAbs_mul]; omega
theorem mulHi_big {a b : Int} (h : mulHi a b ≠ 0) : 18446744073709551616 ≤ (a * b).natAbs := by
  unfold mulHi at h; rw [Int.natAbs_mul]; omega
theorem prod_pos {a b : Int} (h : (a < 0 ∧ b < 0) ∨ (0 ≤ a ∧ 0 ≤ b)) : 0 ≤ a * b := by
  rcases h with ⟨h1, h2⟩ | ⟨h1, h2⟩
  · exact Int.mul_nonneg_of_nonpos_of_nonpos (by omega) (by omega)
  · exact Int.mul_nonneg h1 h2
theorem prod_neg {a b : Int} (h : (a < 0 ∧ 0 ≤ b) ∨ (0 ≤ a ∧ b < 0)) : a * b ≤ 0 := by
  rcases h with ⟨h1, h2⟩ | ⟨h1, h2⟩
  · exact Int.mul_nonpos_of_nonpos_of_nonneg (by omega) h2
  · exact Int.mul_nonpos_of_nonneg_of_nonpos h1 (by omega)
theorem mul_same {a b : Int} (h : mulHi a b = 0) (hs : (a < 0 ∧ b < 0) ∨ (0 ≤ a ∧ 0 ≤ b)) : (mulLo a b : Int) = a * b := by
  have := prod_pos hs; rw [mulLo_of h]; omega
theorem mul_diff {a b : Int} (h : mulHi a b = 0) (hs : (a < 0 ∧ 0 ≤ b) ∨ (0 ≤ a ∧ b < 0)) : -(mulLo a b : Int) = a * b := by
  have := prod_neg hs; rw [mulLo_of h]; omega

theorem neg_cases (a : Int) : (a < 0 ∧ decide (a < 0) = true) ∨ (0 ≤ a ∧ decide (a < 0) = false) := by
  by_cases h : a < 0
  · exact Or.inl ⟨h, decide_eq_true h⟩
  · exact Or.inr ⟨by omega, decide_eq_false h⟩

theorem num_product (a b : Int) (w : World) (a1 : -1125899906842624 ≤ a) (a2 : a ≤ 1125899906842624) (b1 : -1125899906842624 ≤ b) (b2 : b ≤ 1125899906842624) :
    Calls Try.prog 63 #[.int .i64 a, .int .i64 b] w fun e w' => e = .returned (.agg #[.int .u64 (mulHi a b : Int), .int .u64 (mulLo a b : Int)]) ∧ Below w.heap.size w w' := by
  go_enter Try.func63, Try.ntmps63
  go_wp2_with fail
  refine (num_magnitude a _ a1 a2).mono ?_
  rintro e w' ⟨rfl, rfl⟩
  go_wp2_with fail
  refine (num_magnitude b _ b1 b2).mono ?_
  rintro e w' ⟨rfl, rfl⟩
  go_wp2_with fail
  refine (Try.bits_Mul64 _ _ (by omega) (by omega) _).mono ?_
  rintro e w' ⟨rfl, rfl⟩
  rw [← mulHi, ← mulLo]
  go_wp2_with fail
  exact bodyPost_ret (v := .agg #[.int .u64 (mulHi a b : Int), .int .u64 (mulLo a b : Int)]) (by simp [results, Try.results63, go_sem]) rfl ⟨rfl, ((Below.refl _ _).alloc (Nat.le_refl _) _).alloc (by simp) _⟩

/-- The reference's test: |b| > most / |a| says that the product is out of range. -/
theorem ref_mul_big {a b : Int} (ha : a ≠ 0) (h : 1125899906842624 / (a.natAbs : Int) < b.natAbs) : 1125899906842624 < (a * b).natAbs := by
  have h' : 1125899906842624 / a.natAbs < b.natAbs := Int.ofNat_lt.1 (by rw [Int.natCast_ediv]; exact h)
  rw [Int.natAbs_mul, Nat.mul_comm]
  exact (Nat.div_lt_iff_lt_mul (by omega)).1 h'
theorem ref_mul_small {a b : Int} (ha : a ≠ 0) (h : (b.natAbs : Int) ≤ 1125899906842624 / (a.natAbs : Int)) : (a * b).natAbs ≤ 1125899906842624 := by
  have h' : b.natAbs ≤ 1125899906842624 / a.natAbs := Int.ofNat_le.1 (by rw [Int.natCast_ediv]; exact h)
  rw [Int.natAbs_mul, Nat.mul_comm]
  exact (Nat.le_div_iff_mul_le (by omega)).1 h'

end Go.Proofs.Ytihklpkpcnahkaa.Num
/- Division of two words by one, digit by digit: the arithmetic of math/bits.Div64. No walk. -/
namespace Go.Proofs.Ytihklpkpcnahkaa.Num
open Go.ChangeShapes Go.WideShapes Go.RowKit
set_option linter.unusedVariables false

/-- A guess q of the digit Q, with its rest r. -/
structure KAt (u v1 Q q r : Nat) : Prop where
  sum : q * v1 + r = u
  small : r < 4294967296
  high : Q ≤ q

section
variable {u v v1 v0 d Q q r : Nat}
theorem k_lt (hu : u < v) (hd : d < 4294967296) (hQ : Q = (u * 4294967296 + d) / v) : Q < 4294967296 := by
  subst hQ
  rw [Nat.div_lt_iff_lt_mul (by omega)]
  omega
theorem k_start (hv : v = v1 * 4294967296 + v0) (h1 : 1 ≤ v1) (h2 : v1 < 4294967296) (hd : d < 4294967296) (hQ : Q = (u * 4294967296 + d) / v) : KAt u v1 Q (u / v1) (u % v1) := by
  refine ⟨Nat.div_add_mod' u v1, ?_, ?_⟩
  · have := Nat.mod_lt u (show v1 > 0 by omega); omega
  · rw [Nat.le_div_iff_mul_le (by omega)]
    have h3 : Q * v ≤ u * 4294967296 + d := by subst hQ; exact Nat.div_mul_le_self _ _
    rw [hv, Nat.mul_add, ← Nat.mul_assoc] at h3
    omega
theorem k_body (h : KAt u v1 Q q r) (hv : v = v1 * 4294967296 + v0) (h1 : 1 ≤ v1) (hu : u < v) (hd : d < 4294967296) (hQ : Q = (u * 4294967296 + d) / v) (ht : 4294967296 ≤ q ∨ 4294967296 * r + d < q * v0) : Q + 1 ≤ q := by
  rcases ht with ht | ht
  · have := k_lt hu hd hQ; omega
  · have hs := h.sum
    have e : q * v = q * v1 * 4294967296 + q * v0 := by rw [hv, Nat.mul_add, ← Nat.mul_assoc]
    have : Q < q := by
      subst hQ
      rw [Nat.div_lt_iff_lt_mul (by omega), e]
      omega
    omega
theorem k_exit (h : KAt u v1 Q q r) (hv : v = v1 * 4294967296 + v0) (h1 : 1 ≤ v1) (hQ : Q = (u * 4294967296 + d) / v) (ht : q * v0 ≤ 4294967296 * r + d) : q = Q := by
  have hs := h.sum
  have hh := h.high
  have e : q * v = q * v1 * 4294967296 + q * v0 := by rw [hv, Nat.mul_add, ← Nat.mul_assoc]
  have : q ≤ Q := by
    subst hQ
    rw [Nat.le_div_iff_mul_le (by omega), e]
    omega
  omega
theorem k_break (h : KAt u v1 Q (q + 1) r) (hv : v = v1 * 4294967296 + v0) (h1 : 1 ≤ v1) (h0 : v0 < 4294967296) (hu : u < v) (hQ : Q = (u * 4294967296 + d) / v) (hq : Q ≤ q) (ht : 4294967296 ≤ r + v1) : q = Q := by
  have hs := h.sum
  rw [Nat.add_mul, Nat.one_mul] at hs
  have hlt : q < 4294967296 := by
    have : q * v1 < 4294967296 * v1 := by omega
    exact Nat.lt_of_mul_lt_mul_right this
  have hp : q * v0 ≤ 4294967296 * 4294967296 := Nat.mul_le_mul (by omega) (by omega)
  have e : q * v = q * v1 * 4294967296 + q * v0 := by rw [hv, Nat.mul_add, ← Nat.mul_assoc]
  have : q ≤ Q := by
    subst hQ
    rw [Nat.le_div_iff_mul_le (by omega), e]
    omega
  omega
theorem k_next (h : KAt u v1 Q (q + 1) r) (hq : Q ≤ q) (ht : r + v1 < 4294967296) : KAt u v1 Q q (r + v1) := by
  have hs := h.sum
  rw [Nat.add_mul, Nat.one_mul] at hs
  exact ⟨by omega, ht, hq⟩
end

/-- The count of leading zeros makes the divisor fill its word. -/
theorem norm_of {y : Nat} (h1 : 1 ≤ y) (h2 : y < 18446744073709551616) : ∃ s : Nat, s ≤ 63 ∧ (64 - (Lib.bitLen y : Int)) = s ∧ 9223372036854775808 ≤ y * 2 ^ s ∧ y * 2 ^ s < 18446744073709551616 := by
  obtain ⟨b1, b2, b3⟩ := Lib.bitLenAux_bounds 64 y h2 (by omega)
  have b4 : Lib.bitLen y ≤ 64 := Lib.bitLen_le y 64 (by omega) h2
  have e : Lib.bitLen y = Lib.bitLenAux 64 y := rfl
  rw [← e] at b1 b2 b3
  refine ⟨64 - Lib.bitLen y, by omega, by omega, ?_, ?_⟩
  · have : 2 ^ (Lib.bitLen y - 1) * 2 ^ (64 - Lib.bitLen y) = 2 ^ 63 := by rw [← Nat.pow_add]; congr 1; omega
    have h3 : 2 ^ (Lib.bitLen y - 1) * 2 ^ (64 - Lib.bitLen y) ≤ y * 2 ^ (64 - Lib.bitLen y) := Nat.mul_le_mul_right _ b2
    omega
  · have : 2 ^ (Lib.bitLen y) * 2 ^ (64 - Lib.bitLen y) = 2 ^ 64 := by rw [← Nat.pow_add]; congr 1; omega
    have h3 : y * 2 ^ (64 - Lib.bitLen y) < 2 ^ (Lib.bitLen y) * 2 ^ (64 - Lib.bitLen y) := Nat.mul_lt_mul_of_pos_right b3 (Nat.two_pow_pos _)
    omega

/-- The numbers of one division. -/
structure Div2 (hi lo y s Y v1 v0 u l d1 d0 Q1 R Q0 R0 : Nat) : Prop where
  hY : Y = y * 2 ^ s
  Ylo : 9223372036854775808 ≤ Y
  Yhi : Y < 18446744073709551616
  hv : Y = v1 * 4294967296 + v0
  v0lt : v0 < 4294967296
  v1lo : 2147483648 ≤ v1
  v1hi : v1 < 4294967296
  hu : u = hi * 2 ^ s + lo / 2 ^ (64 - s)
  ult : u < Y
  hl : l = lo * 2 ^ s % 18446744073709551616
  hd : l = d1 * 4294967296 + d0
  d1lt : d1 < 4294967296
  d0lt : d0 < 4294967296
  hQ1 : Q1 = (u * 4294967296 + d1) / Y
  hR : R = (u * 4294967296 + d1) % Y
  Rlt : R < Y
  hQ0 : Q0 = (R * 4294967296 + d0) / Y
  hR0 : R0 = (R * 4294967296 + d0) % Y
  quo : Q1 * 4294967296 + Q0 = (hi * 18446744073709551616 + lo) / y
  rem : R0 / 2 ^ s = (hi * 18446744073709551616 + lo) % y

theorem div2_of {hi lo y s : Nat} (hh : hi < y) (hl : lo < 18446744073709551616) (hs : s ≤ 63) (h1 : 9223372036854775808 ≤ y * 2 ^ s) (h2 : y * 2 ^ s < 18446744073709551616) :
    ∃ Y v1 v0 u l d1 d0 Q1 R Q0 R0, Div2 hi lo y s Y v1 v0 u l d1 d0 Q1 R Q0 R0 := by
  have hp := Nat.two_pow_pos s
  have hsplit : 2 ^ (64 - s) * 2 ^ s = 18446744073709551616 := by
    rw [← Nat.pow_add]; have : 64 - s + s = 64 := by omega
    rw [this]
  have hlo : lo / 2 ^ (64 - s) < 2 ^ s := by
    rw [Nat.div_lt_iff_lt_mul (Nat.two_pow_pos _), Nat.mul_comm, hsplit]; exact hl
  have hult : hi * 2 ^ s + lo / 2 ^ (64 - s) < y * 2 ^ s := by
    have : (hi + 1) * 2 ^ s ≤ y * 2 ^ s := Nat.mul_le_mul_right _ hh
    rw [Nat.add_mul, Nat.one_mul] at this; omega
  have hN : (hi * 18446744073709551616 + lo) * 2 ^ s = (hi * 2 ^ s + lo / 2 ^ (64 - s)) * 18446744073709551616 + lo * 2 ^ s % 18446744073709551616 := by
    have e1 : lo * 2 ^ s / 18446744073709551616 = lo / 2 ^ (64 - s) := by
      rw [← hsplit, Nat.mul_comm lo, Nat.mul_comm (2 ^ (64 - s)), Nat.mul_div_mul_left _ _ hp]
    have e2 := Nat.div_add_mod (lo * 2 ^ s) 18446744073709551616
    rw [e1] at e2
    have e3 : hi * 18446744073709551616 * 2 ^ s = hi * 2 ^ s * 18446744073709551616 := by rw [Nat.mul_right_comm]
    rw [Nat.add_mul, e3, Nat.add_mul]
    omega
  obtain ⟨Y, hY⟩ : ∃ Y, Y = y * 2 ^ s := ⟨_, rfl⟩
  obtain ⟨u, hu⟩ : ∃ u, u = hi * 2 ^ s + lo / 2 ^ (64 - s) := ⟨_, rfl⟩
  obtain ⟨l, hl'⟩ : ∃ l, l = lo * 2 ^ s % 18446744073709551616 := ⟨_, rfl⟩
  rw [← hu, ← hl'] at hN
  rw [← hY] at h1 h2 hult
  rw [← hu] at hult
  obtain ⟨Q1, hQ1⟩ : ∃ Q1, Q1 = (u * 4294967296 + l / 4294967296) / Y := ⟨_, rfl⟩
  obtain ⟨R, hR⟩ : ∃ R, R = (u * 4294967296 + l / 4294967296) % Y := ⟨_, rfl⟩
  obtain ⟨Q0, hQ0⟩ : ∃ Q0, Q0 = (R * 4294967296 + l % 4294967296) / Y := ⟨_, rfl⟩
  obtain ⟨R0, hR0⟩ : ∃ R0, R0 = (R * 4294967296 + l % 4294967296) % Y := ⟨_, rfl⟩
  have f1 : Q1 * Y + R = u * 4294967296 + l / 4294967296 := by rw [hQ1, hR]; exact Nat.div_add_mod' _ _
  have f2 : Q0 * Y + R0 = R * 4294967296 + l % 4294967296 := by rw [hQ0, hR0]; exact Nat.div_add_mod' _ _
  have hRlt : R < Y := by rw [hR]; exact Nat.mod_lt _ (by omega)
  have hR0lt : R0 < Y := by rw [hR0]; exact Nat.mod_lt _ (by omega)
  have f3 : (hi * 18446744073709551616 + lo) * 2 ^ s = (Q1 * 4294967296 + Q0) * Y + R0 := by
    have e : Q1 * 4294967296 * Y = Q1 * Y * 4294967296 := Nat.mul_right_comm _ _ _
    rw [hN, Nat.add_mul, e]; omega
  have q1 : (hi * 18446744073709551616 + lo) * 2 ^ s / Y = Q1 * 4294967296 + Q0 := by
    rw [f3, Nat.mul_comm _ Y, Nat.mul_add_div (by omega), Nat.div_eq_of_lt hR0lt]; omega
  have q2 : (hi * 18446744073709551616 + lo) * 2 ^ s % Y = R0 := by
    rw [f3, Nat.mul_comm _ Y, Nat.mul_add_mod, Nat.mod_eq_of_lt hR0lt]
  refine ⟨Y, Y / 4294967296, Y % 4294967296, u, l, l / 4294967296, l % 4294967296, Q1, R, Q0, R0, hY, h1, h2, by omega, by omega, by omega, by omega, hu, hult, hl', by omega, by omega, by omega, hQ1, hR, hRlt, hQ0, hR0, ?_, ?_⟩
  · rw [← q1, hY, Nat.mul_div_mul_right _ _ hp]
  · rw [← q2, hY, Nat.mul_mod_mul_right, Nat.mul_div_cancel _ hp]
end Go.Proofs.Ytihklpkpcnahkaa.Num
