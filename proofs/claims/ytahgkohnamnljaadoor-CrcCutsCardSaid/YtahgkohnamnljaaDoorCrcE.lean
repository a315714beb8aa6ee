/- The table of half bytes; contracts of Extend and Sum of the program, and of shift, Extend, Sum of the reference. -/
import Derived.Test.YtahgkohnamnljaaDoorCrcC
import Derived.Test.YtahgkohnamnljaaDoorWireB
import Derived.Lib.AppendIntMem
import Derived.Deep.CutRange
import Derived.Deep.DeepCutAuto
import Derived.Deep.RegionHeldLaw
import Derived.Deep.RegionWith
namespace Go.Proofs.YtahgkohnamnljaaDoor.Crc
open Go.ChangeShapes Go.WideShapes Go.RowKit
open Wire (Byt InY OwnY below_alloc lt_get bstep get_lt ret_int ret_bool wrap_id byte_of)
set_option linter.unusedVariables false
set_option maxRecDepth 100000

/-! ### Half bytes -/
def s4 (r : Nat) : Nat := s1 (s1 (s1 (s1 r)))
theorem s8_s4 (r : Nat) : s8 r = s4 (s4 r) := rfl
theorem s4_xor (a b : Nat) : s4 (a ^^^ b) = s4 a ^^^ s4 b := by simp only [s4, s1_xor]
theorem s4_lt {r : Nat} (h : r < 4294967296) : s4 r < 4294967296 := s1_lt (s1_lt (s1_lt (s1_lt h)))
theorem s4_shift (y : Nat) : s4 (16 * y) = y := by
  have e : 16 * y = 2 * (2 * (2 * (2 * y))) := by omega
  rw [e]; unfold s4
  simp only [s1_two]
theorem nib (r : Nat) : 16 * (r / 16) ^^^ r % 16 = r := by
  have hm : r % 16 < 2 ^ 4 := Nat.mod_lt r (by decide)
  have h := Nat.two_pow_add_eq_or_of_lt (i := 4) hm (r / 16)
  have e : 2 ^ 4 * (r / 16) + r % 16 = r := by omega
  rw [e] at h
  conv => rhs; rw [h]
  clear h e
  apply Nat.eq_of_testBit_eq
  intro i
  rw [Nat.testBit_xor, Nat.testBit_or, show 16 * (r / 16) = 2 ^ 4 * (r / 16) from rfl, Nat.testBit_two_pow_mul]
  rcases Nat.lt_or_ge i 4 with h | h
  · simp [show ¬ 4 ≤ i by omega]
  · have : (r % 16).testBit i = false := Nat.testBit_lt_two_pow (Nat.lt_of_lt_of_le hm (Nat.pow_le_pow_right (by omega) h))
    simp [this]
theorem s4_split (r : Nat) : s4 r = r / 16 ^^^ s4 (r % 16) := by
  conv => lhs; rw [← nib r]
  rw [s4_xor, s4_shift]
def steps : List Int := [0, 498536548, 997073096, 651767980, 1994146192, 1802195444, 1303535960, 1342533948, 3988292384, 4027552580, 3604390888, 3412177804, 2607071920, 2262029012, 2685067896, 3183342108]
theorem steps_at : ∀ n : Fin 16, steps[n.val]? = some ((s4 n.val : Nat) : Int) := by decide +kernel
theorem and_15 {r : Nat} (h : r < 4294967296) : bits .and .u32 (r : Int) 15 = ((r % 16 : Nat) : Int) := by
  have := u32_and_nat r 15 h (by omega)
  rw [show (15 : Nat) = 2 ^ 4 - 1 from rfl, Nat.and_two_pow_sub_one_eq_mod] at this; exact this
theorem xor_half {r : Nat} (h : r < 4294967296) : bits .xor .u32 ((r : Int) / 16) ((s4 (r % 16) : Nat) : Int) = ((s4 r : Nat) : Int) := by
  have := u32_xor_nat (r / 16) (s4 (r % 16)) (by omega) (s4_lt (by omega))
  rw [← s4_split] at this; exact this

/-! ### The table as it was laid -/
def Tab (w : World) : Prop := Lib.TabBelow Tryd.prog w.heap.size w "papermill/crc.steps" .u32 steps
theorem Tab.on {w w' : World} (h : Tab w) (hb : Below w.heap.size w w') : Tab w' := fun w2 h2 => h w2 (hb.trans (h2.mono hb.size))
theorem Tab.here {w : World} (h : Tab w) : Lib.TabIs Tryd.prog w "papermill/crc.steps" .u32 steps := h w (Below.refl _ _)
theorem gTab : Tryd.prog.globalNamed "papermill/crc.steps" = some 0 := by kernel_rfl
theorem Tab.cell {w : World} (h : Tab w) {n : Nat} (hn : n < 16) : w.cell? ⟨0, n, none⟩ = some (.int .u32 ((s4 n : Nat) : Int)) := by
  have h1 := h.here.cell gTab n (show n < steps.length by exact hn)
  have h2 := steps_at ⟨n, hn⟩
  have h3 : steps.getD n 0 = ((s4 n : Nat) : Int) := by
    rw [List.getD_eq_getElem?_getD, h2]; rfl
  rw [← h3]; exact h1

/-! ### Extend, Sum -/
def Ex (l : List UInt8) (R0 : Nat) (r i : Value) : Prop := ∃ k R : Nat, r = .int .u32 (R : Int) ∧ i = .int .i64 (k : Int) ∧ k ≤ l.length ∧ R = ext R0 (l.take k)
set_option maxHeartbeats 1600000 in
theorem crc_Extend (sum : Nat) (v : Value) (l : List UInt8) (w : World) (hs : sum < 4294967296) (hv : InY w v l) (hl : l.length ≤ 1000000) (ht : Tab w) :
    Calls Tryd.prog 15 #[.int .u32 (sum : Int), v] w fun e w' => e = .returned (.int .u32 (extS sum l : Nat)) ∧ w = w' := by
  obtain ⟨A, c, rfl, hc, _, hb⟩ := hv
  have HB := Lib.hid hb
  have HT := Lib.hid ht
  obtain ⟨N, hN⟩ : ∃ N, N = l.length := ⟨_, rfl⟩
  have HN := Lib.hid hN
  rw [← hN] at hl ⊢
  obtain ⟨R0, hR0⟩ : ∃ R0, R0 = sum ^^^ 4294967295 := ⟨_, rfl⟩
  have hR0l : R0 < 4294967296 := by rw [hR0]; exact flip_lt hs
  have hX : bits .xor .u32 IntKind.u32.max (sum : Int) = (R0 : Int) := by rw [hR0]; exact flip_xor hs
  have HE : Hid (extS sum l = ext R0 l ^^^ 4294967295) := show _ = _ by rw [hR0]; rfl
  have hsg : IntKind.u32.signed = false := rfl
  clear hb hN ht hR0
  go_enter Tryd.func15, Tryd.ntmps15
  go_wp2_with fail
  go_loop [5, 12] (Ex l R0) (fun _ i => N - (intOf i).toNat)
  case atStart => exact ⟨0, R0, rfl, rfl, Nat.zero_le _, rfl⟩
  case round =>
    obtain ⟨k, R, rfl, rfl, hk, hR⟩ := hrel
    rw [← HN.out] at hk
    have hRl : R < 4294967296 := by rw [hR]; exact ext_lt _ hR0l
    have HR := Lib.hid hR
    clear hR
    rcases Nat.lt_or_ge k N with hlt | hge
    · obtain ⟨b, hb⟩ := get_lt (L := l) (k := k) (by rw [← HN.out]; exact hlt)
      obtain ⟨g, off, rfl, hg, hcell⟩ := HB.out k b hb
      have HS := Lib.hid (ext_step R0 l hb)
      have hb8 := UInt8.toNat_lt b
      obtain ⟨X0, hX0⟩ : ∃ X0, X0 = R ^^^ b.toNat := ⟨_, rfl⟩
      have hX0l : X0 < 4294967296 := by rw [hX0]; exact xb_lt b hRl
      have h0 : bits .xor .u32 (R : Int) (b.toNat : Int) = (X0 : Int) := by rw [hX0]; exact xor_byte b hRl
      obtain ⟨X1, hX1⟩ : ∃ X1, X1 = s4 X0 := ⟨_, rfl⟩
      have hX1l : X1 < 4294967296 := by rw [hX1]; exact s4_lt hX0l
      obtain ⟨X2, hX2⟩ : ∃ X2, X2 = s4 X1 := ⟨_, rfl⟩
      obtain ⟨i0, hi0⟩ : ∃ i0, i0 = X0 % 16 := ⟨_, rfl⟩
      obtain ⟨i1, hi1⟩ : ∃ i1, i1 = X1 % 16 := ⟨_, rfl⟩
      obtain ⟨T0, hT0⟩ : ∃ T0, T0 = ((s4 i0 : Nat) : Int) := ⟨_, rfl⟩
      obtain ⟨T1, hT1⟩ : ∃ T1, T1 = ((s4 i1 : Nat) : Int) := ⟨_, rfl⟩
      have ha0 : bits .and .u32 (X0 : Int) 15 = (i0 : Int) := by rw [hi0]; exact and_15 hX0l
      have ha1 : bits .and .u32 (X1 : Int) 15 = (i1 : Int) := by rw [hi1]; exact and_15 hX1l
      have hi0l : i0 < 16 := by omega
      have hi1l : i1 < 16 := by omega
      have hc0 : w.cell? ⟨0, i0, none⟩ = some (.int .u32 T0) := by rw [hT0]; exact HT.out.cell hi0l
      have hc1 : w.cell? ⟨0, i1, none⟩ = some (.int .u32 T1) := by rw [hT1]; exact HT.out.cell hi1l
      have h1 : bits .xor .u32 ((X0 : Int) / 16) T0 = (X1 : Int) := by rw [hT0, hi0, hX1]; exact xor_half hX0l
      have h2 : bits .xor .u32 ((X1 : Int) / 16) T1 = (X2 : Int) := by rw [hT1, hi1, hX2]; exact xor_half hX1l
      have HX : Hid (X2 = ext R0 (l.take (k + 1))) := show _ = _ by rw [HS.out, hX2, hX1, hX0, HR.out, s8_s4]
      clear hb hX0 hX1 hX2 hi0 hi1 hT0 hT1
      go_wp2_with fail
      go_round
      case rel => exact ⟨k + 1, X2, rfl, by go_num, by rw [← HN.out]; omega, HX.out⟩
      case measure => simp [intOf]; omega
    · obtain rfl : k = N := by omega
      have hY : bits .xor .u32 IntKind.u32.max (R : Int) = ((extS sum l : Nat) : Int) := by
        rw [HE.out, ← show R = ext R0 l by rw [HR.out, List.take_of_length_le (by rw [← HN.out]; exact Nat.le_refl _)]]; exact flip_xor hRl
      go_wp2_with fail
      go_ret
      exact ⟨rfl, rfl⟩
theorem crc_Sum (v : Value) (l : List UInt8) (w : World) (hv : InY w v l) (hl : l.length ≤ 1000000) (ht : Tab w) :
    Calls Tryd.prog 13 #[v] w fun e w' => e = .returned (.int .u32 (chk l : Nat)) ∧ w = w' := by
  have HC := Lib.hid (crc_Extend 0 v l w (by decide) hv hl ht)
  clear hv ht
  go_enter Tryd.func13, Tryd.ntmps13
  go_wp2_with fail
  refine HC.out.mono ?_
  rintro e w1 ⟨rfl, rfl⟩
  go_wp2_with fail
  go_ret
  exact ⟨rfl, rfl⟩

/-! ### The reference -/
def Sh (X : Nat) (r i : Value) : Prop := ∃ k R : Nat, r = .int .u32 (R : Int) ∧ i = .int .i64 (k : Int) ∧ k ≤ 8 ∧ R = it1 k X
set_option maxHeartbeats 1600000 in
theorem ref_shift (r : Nat) (b : UInt8) (w : World) (hr : r < 4294967296) :
    Calls Tryd.prog 25 #[.int .u32 (r : Int), .int .u8 (b.toNat : Int)] w fun e w' => e = .returned (.int .u32 (s8 (r ^^^ b.toNat) : Nat)) ∧ w = w' := by
  have hb8 := UInt8.toNat_lt b
  obtain ⟨X, hX⟩ : ∃ X, X = r ^^^ b.toNat := ⟨_, rfl⟩
  have hXl : X < 4294967296 := by rw [hX]; exact xb_lt b hr
  have h0 : bits .xor .u32 (r : Int) (b.toNat : Int) = (X : Int) := by rw [hX]; exact xor_byte b hr
  rw [← hX]
  clear hX
  go_enter Tryd.func25, Tryd.ntmps25
  go_wp2_with fail
  go_loop [0, 5] (Sh X) (fun _ i => 8 - (intOf i).toNat)
  case atStart => exact ⟨0, X, rfl, rfl, by omega, rfl⟩
  case round =>
    obtain ⟨k, R, rfl, rfl, hk, hR⟩ := hrel
    have hRl : R < 4294967296 := by rw [hR]; exact it1_lt _ hXl
    have HR := Lib.hid hR
    clear hR
    rcases Nat.lt_or_ge k 8 with hlt | hge
    · have h1 := and_one hRl
      obtain ⟨R', hR'⟩ : ∃ R', R' = s1 R := ⟨_, rfl⟩
      have HX : Hid (R' = it1 (k + 1) X) := show _ = _ by rw [hR', HR.out]; rfl
      rcases Nat.mod_two_eq_zero_or_one R with par | par
      · have h2 : bits .and .u32 (R : Int) 1 = 0 := by rw [h1, par]; rfl
        have h3 : (R : Int) / 2 = (R' : Int) := by rw [hR', s1_even par]; omega
        clear h1 hR' par
        go_wp2_with fail
        go_round
        case rel => exact ⟨k + 1, R', rfl, by go_num, by omega, HX.out⟩
        case measure => simp [intOf]; omega
      · have h2 : bits .and .u32 (R : Int) 1 = 1 := by rw [h1, par]; rfl
        have h3 : bits .xor .u32 ((R : Int) / 2) 3988292384 = (R' : Int) := by rw [hR']; exact xor_poly hRl par
        clear h1 hR' par
        go_wp2_with fail
        go_round
        case rel => exact ⟨k + 1, R', rfl, by go_num, by omega, HX.out⟩
        case measure => simp [intOf]; omega
    · obtain rfl : k = 8 := by omega
      go_wp2_with fail
      go_ret
      exact ⟨ret_int (by rw [HR.out]; rfl), rfl⟩
set_option maxHeartbeats 1600000 in
theorem ref_Extend (sum : Nat) (v : Value) (l : List UInt8) (w : World) (hs : sum < 4294967296) (hv : InY w v l) (hl : l.length ≤ 1000000) :
    Calls Tryd.prog 16 #[.int .u32 (sum : Int), v] w fun e w' => e = .returned (.int .u32 (extS sum l : Nat)) ∧ w = w' := by
  obtain ⟨A, c, rfl, hc, _, hb⟩ := hv
  have HB := Lib.hid hb
  obtain ⟨N, hN⟩ : ∃ N, N = l.length := ⟨_, rfl⟩
  have HN := Lib.hid hN
  rw [← hN] at hl ⊢
  obtain ⟨R0, hR0⟩ : ∃ R0, R0 = sum ^^^ 4294967295 := ⟨_, rfl⟩
  have hR0l : R0 < 4294967296 := by rw [hR0]; exact flip_lt hs
  have hX : bits .xor .u32 (sum : Int) 4294967295 = (R0 : Int) := by rw [hR0]; exact xor_flip hs
  have HE : Hid (extS sum l = ext R0 l ^^^ 4294967295) := show _ = _ by rw [hR0]; rfl
  clear hb hN hR0
  go_enter Tryd.func16, Tryd.ntmps16
  go_wp2_with fail
  go_loop [5, 6] (Ex l R0) (fun _ i => N - (intOf i).toNat)
  case atStart => exact ⟨0, R0, rfl, rfl, Nat.zero_le _, rfl⟩
  case round =>
    obtain ⟨k, R, rfl, rfl, hk, hR⟩ := hrel
    rw [← HN.out] at hk
    have hRl : R < 4294967296 := by rw [hR]; exact ext_lt _ hR0l
    have HR := Lib.hid hR
    clear hR
    rcases Nat.lt_or_ge k N with hlt | hge
    · obtain ⟨b, hb⟩ := get_lt (L := l) (k := k) (by rw [← HN.out]; exact hlt)
      obtain ⟨g, off, rfl, hg, hcell⟩ := HB.out k b hb
      have HS := Lib.hid (ext_step R0 l hb)
      obtain ⟨X2, hX2⟩ : ∃ X2, X2 = s8 (R ^^^ b.toNat) := ⟨_, rfl⟩
      have HX : Hid (X2 = ext R0 (l.take (k + 1))) := show _ = _ by rw [HS.out, hX2, HR.out]
      have HC := Lib.hid (ref_shift R b w hRl)
      rw [← hX2] at HC
      clear hb hX2
      go_wp2_with fail
      refine HC.out.mono ?_
      rintro e w1 ⟨rfl, rfl⟩
      go_wp2_with fail
      go_round
      case rel => exact ⟨k + 1, X2, rfl, by go_num, by rw [← HN.out]; omega, HX.out⟩
      case measure => simp [intOf]; omega
    · obtain rfl : k = N := by omega
      have hY : bits .xor .u32 (R : Int) 4294967295 = ((extS sum l : Nat) : Int) := by
        rw [HE.out, ← show R = ext R0 l by rw [HR.out, List.take_of_length_le (by rw [← HN.out]; exact Nat.le_refl _)]]; exact xor_flip hRl
      go_wp2_with fail
      go_ret
      exact ⟨rfl, rfl⟩
theorem ref_Sum (v : Value) (l : List UInt8) (w : World) (hv : InY w v l) (hl : l.length ≤ 1000000) :
    Calls Tryd.prog 14 #[v] w fun e w' => e = .returned (.int .u32 (chk l : Nat)) ∧ w = w' := by
  have HC := Lib.hid (ref_Extend 0 v l w (by decide) hv hl)
  clear hv
  go_enter Tryd.func14, Tryd.ntmps14
  go_wp2_with fail
  refine HC.out.mono ?_
  rintro e w1 ⟨rfl, rfl⟩
  go_wp2_with fail
  go_ret
  exact ⟨rfl, rfl⟩
#print axioms crc_Extend
#print axioms crc_Sum
#print axioms ref_Extend
#print axioms ref_Sum
end Go.Proofs.YtahgkohnamnljaaDoor.Crc
