/- The laws NumSums, NumRoots, NumDivides, NumLong: the walks. -/
import Derived.Test.YtekjmkihmegnnaaLawKit
import Derived.Test.YtekjmkihmegnnaaNumS
import Derived.Test.YtekjmkihmegnnaaNumI
import Derived.Test.YtekjmkihmegnnaaNumQ
namespace Go.Proofs.Ytekjmkihmegnnaa
open Go.ChangeShapes Go.WideShapes Go.RowKit
set_option linter.unusedVariables false

theorem holds_of {A : Option Addr} {n c : Nat} {zs : List Int} {w : World} (h : InInts .i64 w A n c zs) : Holds w w.heap.size A zs := h.2.2.2.2
theorem short_of {A : Option Addr} {n c : Nat} {zs : List Int} {w : World} (h : InInts .i64 w A n c zs) : zs.length ≤ 9223372036854775807 := by
  have h1 := h.1; have h2 := h.2.1; have h3 := h.2.2.1; unfold maxLen at h3; omega

theorem walk_NumSums (w : World) (a0 : Option Addr) (n0 c0 : Nat) (z0 : List Int) (w0 : InInts .i64 w a0 n0 c0 z0) :
    Calls Try.prog 4 #[.slice a0 n0 c0] w fun e w' => e = .returned (.bool true) ∧ Below w.heap.size w w' := by
  obtain rfl : n0 = z0.length := w0.1
  have hl := short_of w0
  have H0 := Lib.hid w0
  clear w0
  by_cases h : 200 < (z0.length : Int)
  · go_enter Try.func4, Try.ntmps4
    go_wp2_with fail
    refine (awake_any _).mono ?_
    rintro e w2 ⟨rfl, hb2⟩
    go_wp2_with fail
    go_ret
    exact ⟨rfl, hb2⟩
  · have hd : decide (200 < (z0.length : Int)) = false := decide_eq_false h
    clear h
    go_enter Try.func4, Try.ntmps4
    go_wp2_with fail
    refine (num_sum _ _ _ _ (holds_of H0.out) hl).mono ?_
    rintro e w1 ⟨rfl, hb1⟩
    go_wp2_with fail
    refine (ref_sum _ _ _ _ (((holds_of H0.out).below hb1).more hb1.size) hl).mono ?_
    rintro e w' ⟨rfl, rfl⟩
    go_wp2_with fail
    refine (awake_any _).mono ?_
    rintro e w2 ⟨rfl, hb2⟩
    go_wp2_with fail
    go_ret
    exact ⟨rfl, hb1.trans (hb2.mono hb1.size)⟩

theorem walk_NumRoots (w : World) (a0 : Int) (w0 : (Lit.int .i64 a0).wf = true) (a1 : Int) (w1 : (Lit.int .i64 a1).wf = true) :
    Calls Try.prog 6 #[.int .i64 a0, .int .i64 a1] w fun e w' => e = .returned (.bool true) ∧ Below w.heap.size w w' := by
  clear w0 w1
  go_enter Try.func6, Try.ntmps6
  go_wp2_with fail
  refine (num_gcd _ _ _).mono ?_
  rintro e w1 ⟨rfl, hb1⟩
  go_wp2_with fail
  refine (ref_gcd _ _ _).mono ?_
  rintro e w' ⟨rfl, rfl⟩
  go_wp2_with fail
  refine (num_sqrt _ _).mono ?_
  rintro e w' ⟨rfl, rfl⟩
  go_wp2_with fail
  refine (ref_sqrt _ _).mono ?_
  rintro e w' ⟨rfl, rfl⟩
  go_wp2_with fail
  refine (awake_any _).mono ?_
  rintro e w2 ⟨rfl, hb2⟩
  go_wp2_with fail
  go_ret
  exact ⟨rfl, hb1.trans (hb2.mono hb1.size)⟩

theorem walk_NumDivides (w : World) (a0 b0 c0 d0 : Int) (w0 : (Lit.int .i64 a0).wf = true) (x0 : (Lit.int .i64 b0).wf = true) (y0 : (Lit.int .i64 c0).wf = true) (u0 : (Lit.int .i64 d0).wf = true) :
    Calls Try.prog 5 #[.agg #[.int .i64 a0, .int .i64 b0, .int .i64 c0, .int .i64 d0]] w fun e w' => e = .returned (.bool true) ∧ Below w.heap.size w w' := by
  clear w0 x0 y0 u0
  go_enter Try.func5, Try.ntmps5
  go_wp2_with fail
  refine (num_muldiv _ _ _ _ _).mono ?_
  rintro e w1 ⟨rfl, hb1⟩
  obtain ⟨hc, hf⟩ : (∀ o, w1.cell? ⟨w.heap.size, o, none⟩ = (w.alloc (.cells #[.int .i64 a0, .int .i64 b0, .int .i64 c0, .int .i64 d0] 30)).cell? ⟨w.heap.size, o, none⟩) ∧ True :=
    ⟨fun o => hb1.cell (p := ⟨w.heap.size, o, none⟩) (by simp), trivial⟩
  have HB1 := Lib.hid hb1
  clear hb1 hf
  go_wp2_with fail
  refine (ref_muldiv _ _ _ _ _).mono ?_
  rintro e w2 ⟨rfl, hb2⟩
  have HB2 := Lib.hid hb2
  clear hb2
  go_wp2_with fail
  refine (awake_any _).mono ?_
  rintro e w3 ⟨rfl, hb3⟩
  go_wp2_with fail
  go_ret
  have h1 := HB1.out.size
  have h2 := HB2.out.size
  simp at h1
  exact ⟨rfl, ((((Below.refl _ _).alloc (Nat.le_refl _) _).trans (HB1.out.mono (by simp))).trans (HB2.out.mono (by omega))).trans (hb3.mono (by omega))⟩
#print axioms walk_NumDivides
end Go.Proofs.Ytekjmkihmegnnaa
