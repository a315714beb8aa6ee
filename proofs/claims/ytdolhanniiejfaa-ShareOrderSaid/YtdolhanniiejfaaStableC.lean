/- A stable sort in memory: rotations; the comparison; insertion. -/
import Derived.Test.YtdolhanniiejfaaStableB
namespace Go.Proofs.Ytdolhanniiejfaa.Stable
open Go.ChangeShapes Go.WideShapes Go.RowKit Go.Lib Go.Proofs.Ytdolhanniiejfaa.Mem
set_option linter.unusedVariables false
set_option maxRecDepth 100000

set_option maxHeartbeats 1600000 in
theorem rotate {v : Nat → Int} {g n cap : Nat} {w0 w : World} {s : Nat → Nat} (h : St v g n cap w0 w s) (hn : n ≤ 1000000) (a m b : Nat) (h1 : a < m) (h2 : m < b) (h3 : b ≤ n) (F : Nat) (caps : Array Value) :
    Calls Try.prog 83 #[.slice (some ⟨g, 0, none⟩) n cap, .int .i64 (a : Int), .int .i64 (m : Int), .int .i64 (b : Int), .func (.func F) #[] caps] w fun e w' => e = .returned (.tuple #[]) ∧ St v g n cap w0 w' (rot s a m b) := by
  have HS := Lib.hid h
  have HN := Lib.hid hn
  obtain ⟨i0, hi0⟩ : ∃ x, x = m - a := ⟨_, rfl⟩
  obtain ⟨j0, hj0⟩ : ∃ x, x = b - m := ⟨_, rfl⟩
  have e1 : IntKind.i64.wrap ((m : Int) - (a : Int)) = (i0 : Int) := by rw [wrap_id (by omega)]; omega
  have e2 : IntKind.i64.wrap ((b : Int) - (m : Int)) = (j0 : Int) := by rw [wrap_id (by omega)]; omega
  have HI := Lib.hid (show m - i0 = a ∧ m + j0 = b ∧ 0 < i0 ∧ 0 < j0 ∧ i0 ≤ m ∧ m + j0 ≤ n by omega)
  clear h hn h1 h2 h3 hi0 hj0
  go_enter Try.func83, Try.ntmps83
  go_wp2_with fail
  go_loopw [10, 11] (fun x y wr => ∃ (i j : Nat) (c : Nat → Nat), x = .int .i64 (i : Int) ∧ y = .int .i64 (j : Int) ∧ 0 < i ∧ 0 < j ∧ i ≤ m ∧ m + j ≤ n ∧ St v g n cap w0 wr c ∧ rot c (m - i) m (m + j) = rot s a m b) (fun x y _ => (intOf x).toNat + (intOf y).toNat)
  case atStart => exact ⟨i0, j0, s, rfl, rfl, HI.out.2.2.1, HI.out.2.2.2.1, HI.out.2.2.2.2.1, HI.out.2.2.2.2.2, HS.out, by rw [HI.out.1, HI.out.2.1]⟩
  case round =>
    obtain ⟨i, j, c, rfl, rfl, hi, hj, him, hjn, hst, hrot⟩ := hrel
    have HST := Lib.hid hst
    have HROT := Lib.hid hrot
    have hN := HN.out
    clear hst hrot e1 e2
    obtain ⟨p, hp⟩ : ∃ x, x = m - i := ⟨_, rfl⟩
    have ep : IntKind.i64.wrap ((m : Int) - (i : Int)) = (p : Int) := by rw [wrap_id (by omega)]; omega
    rcases Nat.lt_trichotomy i j with hlt | heq | hgt
    · obtain ⟨d, hd⟩ : ∃ x, x = j - i := ⟨_, rfl⟩
      obtain ⟨q, hq⟩ : ∃ x, x = m + j := ⟨_, rfl⟩
      obtain ⟨r, hr⟩ : ∃ x, x = m + j - i := ⟨_, rfl⟩
      have eq : IntKind.i64.wrap ((m : Int) + (j : Int)) = (q : Int) := by rw [wrap_id (by omega)]; omega
      have er : IntKind.i64.wrap ((q : Int) - (i : Int)) = (r : Int) := by rw [wrap_id (by omega)]; omega
      have ed : IntKind.i64.wrap ((j : Int) - (i : Int)) = (d : Int) := by rw [wrap_id (by omega)]; omega
      have HC := Lib.hid (swap_range HST.out hN p r i (by omega) (by omega) F caps)
      have b1 : ((i : Int) != (j : Int)) = true := by simp; omega
      have b2 : ¬ j < i := by omega
      have b3 : ¬ i = j := by omega
      have b4 : decide (j < i) = false := decide_eq_false (by omega)
      have HX := Lib.hid (show 0 < d ∧ d < j ∧ m + d ≤ n ∧ p = m - i ∧ r = m + j - i ∧ d = j - i by omega)
      clear hp hq hr hd hN hlt
      go_wp2_with fail
      refine HC.out.mono ?_
      rintro e w2 ⟨rfl, hst2⟩
      have HST2 := Lib.hid hst2
      clear hst2
      go_wp2_with fail
      go_roundw
      case rel =>
        obtain ⟨x1, x2, x3, x4, x5, x6⟩ := HX.out
        refine ⟨i, d, _, rfl, rfl, hi, x1, him, x3, HST2.out, ?_⟩
        rw [← HROT.out, x4, x5, x6]
        exact rot_less c him (by omega)
      case measure =>
        have hX := HX.out
        simp [intOf]; omega
    · subst heq
      have HC := Lib.hid (swap_range HST.out hN p m i (by omega) (by omega) F caps)
      have HP := Lib.hid hp
      have b1 : ((i : Int) != (i : Int)) = false := by simp
      clear hp hN
      go_wp2_with fail
      refine HC.out.mono ?_
      rintro e w2 ⟨rfl, hst2⟩
      have HST2 := Lib.hid hst2
      clear hst2
      go_wp2_with fail
      go_end0
      refine ⟨rfl, HST2.out.to ?_⟩
      rw [← HROT.out, HP.out]
      exact rot_same c him
    · obtain ⟨d, hd⟩ : ∃ x, x = i - j := ⟨_, rfl⟩
      have ed : IntKind.i64.wrap ((i : Int) - (j : Int)) = (d : Int) := by rw [wrap_id (by omega)]; omega
      have HC := Lib.hid (swap_range HST.out hN p m j (by omega) (by omega) F caps)
      have b1 : ((i : Int) != (j : Int)) = true := by simp; omega
      have b2 : j < i := by omega
      have b3 : ¬ i = j := by omega
      have b4 : decide (j < i) = true := decide_eq_true (by omega)
      have HX := Lib.hid (show 0 < d ∧ d < i ∧ d ≤ m ∧ p = m - i ∧ d = i - j by omega)
      clear hp hd hN hgt
      go_wp2_with fail
      refine HC.out.mono ?_
      rintro e w2 ⟨rfl, hst2⟩
      have HST2 := Lib.hid hst2
      clear hst2
      go_wp2_with fail
      go_roundw
      case rel =>
        obtain ⟨x1, x2, x3, x4, x5⟩ := HX.out
        refine ⟨d, j, _, rfl, rfl, x1, hj, x3, hjn, HST2.out, ?_⟩
        rw [← HROT.out, x4, x5]
        exact rot_more c him (by omega)
      case measure =>
        have hX := HX.out
        simp [intOf]; omega
#print axioms rotate

end Go.Proofs.Ytdolhanniiejfaa.Stable
