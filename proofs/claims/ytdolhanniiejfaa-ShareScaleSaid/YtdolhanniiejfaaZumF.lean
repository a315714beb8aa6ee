/- Contracts of num's wide integers: plus and narrow. -/
import Derived.Test.YtdolhanniiejfaaZumB
import Derived.Laws.Externs
import Derived.WalkSmall
import Derived.BigQuiet
import Derived.Deep.RegionWith
import Derived.Deep.QuietTactic
namespace Go.Proofs.Ytdolhanniiejfaa.Num
open Go.ChangeShapes Go.WideShapes Go.RowKit
set_option linter.unusedVariables false

/-- math/bits.Add64 at this program. -/
theorem bits_add64 (x y c : Int) (hx : 0 ≤ x) (hy : 0 ≤ y) (hc0 : 0 ≤ c) (hc : c ≤ 1) (w : World) :
    (callFunc 60 #[.int .u64 x, .int .u64 y, .int .u64 c]).run Try.prog w =
      .ok (.value (.tuple #[.int .u64 ((x + y + c) % 18446744073709551616), .int .u64 ((x + y + c) / 18446744073709551616)])) w := by
  rw [run_callFunc_extern Try.func60 (by kernel_rfl) (by kernel_rfl) (by kernel_rfl) (e := add64Entry) (by kernel_rfl), run_add64 x y c hx hy hc0 hc]
  rfl

/-- The words of s in two's complement, and what adding n makes of them. -/
def hiW (s : Int) : Int := s / 18446744073709551616 % 18446744073709551616
def loW (s : Int) : Int := s % 18446744073709551616
theorem hiW_bd (s : Int) : 0 ≤ hiW s ∧ hiW s < 18446744073709551616 := by unfold hiW; omega
theorem loW_bd (s : Int) : 0 ≤ loW s ∧ loW s < 18446744073709551616 := by unfold loW; omega
theorem signW_bd (n : Int) : 0 ≤ signW n ∧ signW n < 18446744073709551616 := by unfold signW; split <;> omega
def carW (s n : Int) : Int := (loW s + n % 18446744073709551616 + 0) / 18446744073709551616
def carW2 (s n : Int) : Int := (hiW s + signW n + carW s n) / 18446744073709551616
theorem loW_add (s n : Int) : (loW s + n % 18446744073709551616 + 0) % 18446744073709551616 = loW (s + n) := by unfold loW; omega
theorem hiW_add (s n : Int) (h1 : -9223372036854775808 ≤ n) (h2 : n ≤ 9223372036854775807) :
    (hiW s + signW n + carW s n) % 18446744073709551616 = hiW (s + n) := by
  unfold hiW carW loW signW
  split <;> omega
theorem add_low (s n : Int) (w : World) :
    (callFunc 60 #[.int .u64 (loW s), .int .u64 (IntKind.u64.wrap n), .int .u64 0]).run Try.prog w = .ok (.value (.tuple #[.int .u64 (loW (s + n)), .int .u64 (carW s n)])) w := by
  have e : IntKind.u64.wrap n = n % 18446744073709551616 := by rw [IntKind.wrap_u64]
  have b := loW_bd s
  rw [e, bits_add64 _ _ _ b.1 (by omega) (by omega) (by omega), loW_add]
  rfl
theorem add_high (s n : Int) (w : World) (h1 : -9223372036854775808 ≤ n) (h2 : n ≤ 9223372036854775807) :
    (callFunc 60 #[.int .u64 (hiW s), .int .u64 (signW n), .int .u64 (carW s n)]).run Try.prog w = .ok (.value (.tuple #[.int .u64 (hiW (s + n)), .int .u64 (carW2 s n)])) w := by
  have b := hiW_bd s
  have c := signW_bd n
  have l := loW_bd s
  rw [bits_add64 _ _ _ b.1 c.1 (by unfold carW; omega) (by unfold carW; omega), hiW_add s n h1 h2]
  rfl

set_option maxHeartbeats 400000 in
theorem num_plus (s n : Int) (w : World) (h1 : -1125899906842624 ≤ n) (h2 : n ≤ 1125899906842624) :
    Calls Try.prog 42 #[.agg #[.int .u64 (hiW s), .int .u64 (loW s)], .int .i64 n] w fun e w' => e = .returned (.agg #[.int .u64 (hiW (s + n)), .int .u64 (loW (s + n))]) ∧ Below w.heap.size w w' := by
  have ha := add_low s n
  have hb := fun W => add_high s n W (by omega) (by omega)
  have hbl : Below w.heap.size w (((w.alloc (.cells #[.int .u64 (hiW s), .int .u64 (loW s)] 60)).alloc (.cells #[.int .u64 0, .int .u64 0] 60)).alloc (.cells #[.int .u64 0, .int .u64 (loW (s + n))] 60)) :=
    (((Below.refl _ _).alloc (Nat.le_refl _) _).alloc (by simp) _).alloc (by simp; omega) _
  go_enter Try.func42, Try.ntmps42
  go_wp2_with fail
  go_region_with (go_at_call 61; refine (num_signWord n _).mono ?_; rintro e w' ⟨rfl, rfl⟩)
  all_goals go_wp2
  all_goals exact bodyPost_ret (v := .agg #[.int .u64 (hiW (s + n)), .int .u64 (loW (s + n))]) (by simp [results, Try.results42, go_sem]) rfl ⟨rfl, ((((Below.refl _ _).alloc (Nat.le_refl _) _).alloc (by simp) _).alloc (by simp; omega) _).drew⟩

theorem wrap_small {s : Int} (h1 : -9223372036854775808 ≤ s) (h2 : s ≤ 9223372036854775807) : wrap64 (loW s) = s := by unfold wrap64 loW; omega
theorem hi_small {s : Int} (h1 : -9223372036854775808 ≤ s) (h2 : s ≤ 9223372036854775807) : (hiW s != signW s) = false := by
  have e : hiW s = signW s := by unfold hiW signW; split <;> omega
  rw [e]; simp
theorem hi_big {s : Int} (h1 : s < -9223372036854775808 ∨ 9223372036854775807 < s) (h2 : -85070591730234615865843651857942052864 ≤ s) (h3 : s ≤ 85070591730234615865843651857942052864) : (hiW s != signW (wrap64 (loW s))) = true := by
  have e : ¬ hiW s = signW (wrap64 (loW s)) := by unfold hiW signW wrap64 loW; split <;> omega
  simpa using e

theorem num_narrow (s : Int) (w : World) (h2 : -85070591730234615865843651857942052864 ≤ s) (h3 : s ≤ 85070591730234615865843651857942052864) :
    Calls Try.prog 43 #[.agg #[.int .u64 (hiW s), .int .u64 (loW s)]] w fun e w' => e = .returned (.tuple #[.int .i64 (okV s), .int .i64 (okE s)]) ∧ Below w.heap.size w w' := by
  by_cases hs : -9223372036854775808 ≤ s ∧ s ≤ 9223372036854775807
  · have e1 := wrap_small hs.1 hs.2
    have e2 := hi_small hs.1 hs.2
    clear hs h2 h3
    go_enter Try.func43, Try.ntmps43
    go_wp2_with fail
    go_quiet ((go_at_call 61; exact Calls.quiet_of_same ((num_signWord _ _).mono fun _ _ k => ⟨k.1, k.2.symm⟩)))
    go_wp2_with (go_at_call 62; refine (num_checked _ _).mono ?_; rintro e w' ⟨rfl, rfl⟩)
    go_ret2
    exact ⟨rfl, below_drewN ((Below.refl _ _).alloc (Nat.le_refl _) _) _⟩
  · have e2 := hi_big (s := s) (by omega) h2 h3
    have HS := Lib.hid hs
    clear hs
    go_enter Try.func43, Try.ntmps43
    go_wp2_with fail
    go_quiet ((go_at_call 61; exact Calls.quiet_of_same ((num_signWord _ _).mono fun _ _ k => ⟨k.1, k.2.symm⟩)))
    go_wp2
    go_ret2
    have hh := HS.out
    exact ⟨ret_two (okV_no (by omega)).symm (okE_no (by omega)).symm, below_drewN ((Below.refl _ _).alloc (Nat.le_refl _) _) _⟩
#print axioms num_plus
#print axioms num_narrow
end Go.Proofs.Ytdolhanniiejfaa.Num
