/- Contract of Join of the reference. -/
import Derived.Test.YthiebggamfmjgaaDoorFieldD
namespace Go.Proofs.YthiebggamfmjgaaDoor.Field
open Go.ChangeShapes Go.WideShapes Go.RowKit
set_option linter.unusedVariables false
set_option maxRecDepth 100000

theorem fstE_ok_at {M : List (List UInt8)} {k : Nat} {x : List UInt8} (h : fstE M = 0) (hx : M[k]? = some x) : fldE x = 0 := by
  have h1 : ∀ (k : Nat), fstE (M.take k) = 0 := fun k => by
    by_cases h2 : fstE (M.take k) = 0
    · exact h2
    · have e := fstE_bad h2 (M.drop k)
      rw [List.take_append_drop] at e
      rw [← e, h]
  have h2 := h1 (k + 1)
  rw [take_snoc_of hx, fstE_snoc (h1 k)] at h2
  exact h2
theorem bad_byte {M : List (List UInt8)} {k : Nat} {s : ByteArray} {j : Nat} {b : UInt8} (h : fstE (M.take k) = 0) (hx : M[k]? = some s.data.toList) (hl : ¬ 256 < s.size) (hg : s.data.toList[j]? = some b) (hb : okB b = false) : joinE M = 3 ∧ joinL M = [] := by
  have hf : fldE s.data.toList = 3 := fldE_text hl (okS_at hg hb)
  have e := fstE_at h hx (by rw [hf]; decide)
  have e2 : joinE M = 3 := by rw [joinE_first (by rw [e, hf]; decide), e, hf]
  exact ⟨e2, by unfold joinL; rw [e2]; rfl⟩
theorem big_field {M : List (List UInt8)} {k : Nat} {s : ByteArray} (h : fstE (M.take k) = 0) (hx : M[k]? = some s.data.toList) (hl : 256 < s.size) : joinE M = 8 ∧ joinL M = [] := by
  have hf := fldE_big hl
  have e := fstE_at h hx (by rw [hf]; decide)
  have e2 : joinE M = 8 := by rw [joinE_first (by rw [e, hf]; decide), e, hf]
  exact ⟨e2, by unfold joinL; rw [e2]; rfl⟩
theorem long_line {M : List (List UInt8)} {k : Nat} (h : fstE M = 0) (hl : 1024 < (lineL (M.take k)).length) : joinE M = 8 ∧ joinL M = [] := by
  have h1 := lineL_take M k
  have e2 : joinE M = 8 := by rw [joinE_line h, if_pos (by omega)]
  exact ⟨e2, by unfold joinL; rw [e2]; rfl⟩
theorem whole_line {M : List (List UInt8)} (h : fstE M = 0) (hl : (lineL M).length ≤ 1024) : joinE M = 0 ∧ joinL M = lineL M := by
  have e2 : joinE M = 0 := by rw [joinE_line h, if_neg (by omega)]
  exact ⟨e2, by unfold joinL; rw [e2]; rfl⟩

set_option maxHeartbeats 3200000 in
theorem ref_Join (L : List ByteArray) (A : Option Addr) (c : Nat) (w : World) (hA : Strs w A L) (hz : Siz L) (hm : L.length ≤ 9223372036854775807) :
    Calls Tryd.prog 15 #[.slice A L.length c] w fun e w' => e = .returned (.tuple #[.string (bs (joinL (LL L))), .int .i64 (joinE (LL L))]) ∧ w = w' := by
  have HA := Lib.hid hA
  have HZ := Lib.hid hz
  clear hA hz
  go_enter Tryd.func15, Tryd.ntmps15
  go_wp2_with fail
  go_loop [5] (fun i => ∃ k : Nat, k ≤ L.length ∧ i = .int .i64 k ∧ fstE ((LL L).take k) = 0) (fun i => L.length - (intOf i).toNat)
  case atStart => exact ⟨0, Nat.zero_le _, rfl, rfl⟩
  case round =>
    obtain ⟨k, hk, rfl, hf⟩ := hrel
    have HF := Lib.hid hf
    clear hf
    rcases Nat.lt_or_ge k L.length with hlt | hge
    · obtain ⟨s, hs⟩ := get_lt hlt
      have hms := (HZ.out.at_ hs).1
      obtain ⟨b, off, rfl, hb, hc⟩ := HA.out k s hs
      have HX := Lib.hid (LL_get hs)
      clear hs
      by_cases h256 : 256 < s.size
      · have i1 : (256 : Int) < (s.size : Int) := by omega
        have HE := Lib.hid (big_field HF.out HX.out h256)
        clear h256
        go_wp2_with fail
        go_ret2
        exact ⟨ret_two (by rw [HE.out.2]; rfl) HE.out.1.symm, rfl⟩
      · have i1 : decide ((256 : Int) < (s.size : Int)) = false := decide_eq_false (by omega)
        have H256 := Lib.hid h256
        clear h256
        go_wp2_with fail
        go_loop [6] (fun i => ∃ j : Nat, j ≤ s.size ∧ i = .int .i64 j ∧ okT s j) (fun i => s.size - (intOf i).toNat)
        case atStart => exact ⟨0, Nat.zero_le _, rfl, rfl⟩
        case round =>
          obtain ⟨j, hj, rfl, ha⟩ := hrel
          have HAT := Lib.hid ha
          clear ha
          rcases Nat.lt_or_ge j s.size with hlt2 | hge2
          · have HG := Lib.hid (str_get? s hlt2)
            rcases Nat.lt_or_ge s[j].toNat 32 with h1 | h1
            · have hi : ((s[j].toNat : Nat) : Int) < 32 := by omega
              have HE := Lib.hid (bad_byte HF.out HX.out H256.out HG.out (by unfold okB; rw [decide_eq_false (by omega)]; rfl))
              go_wp2_with fail
              go_ret2
              exact ⟨ret_two (by rw [HE.out.2]; rfl) HE.out.1.symm, rfl⟩
            · have hi : decide (((s[j].toNat : Nat) : Int) < 32) = false := decide_eq_false (by omega)
              rcases Nat.lt_or_ge 126 s[j].toNat with h2 | h2
              · have hi2 : (126 : Int) < ((s[j].toNat : Nat) : Int) := by omega
                have HE := Lib.hid (bad_byte HF.out HX.out H256.out HG.out (by unfold okB; rw [decide_eq_false (p := s[j].toNat ≤ 126) (by omega), Bool.and_false]))
                go_wp2_with fail
                go_ret2
                exact ⟨ret_two (by rw [HE.out.2]; rfl) HE.out.1.symm, rfl⟩
              · have hi2 : decide ((126 : Int) < ((s[j].toNat : Nat) : Int)) = false := decide_eq_false (by omega)
                have HB := Lib.hid (okT_next HAT.out HG.out (by simp [okB, h1, h2]))
                go_wp2_with fail
                go_round
                case rel => exact ⟨j + 1, by omega, by go_num, HB.out⟩
                case measure => simp [intOf]; omega
          · obtain rfl : j = s.size := by omega
            have HN : Hid (fstE ((LL L).take (k + 1)) = 0) := fstE_next HF.out HX.out (fldE_text H256.out (okT_end HAT.out))
            go_wp2_with fail
            go_round
            case rel => exact ⟨k + 1, by omega, by go_num, HN.out⟩
            case measure => simp [intOf]; omega
    · obtain rfl : k = L.length := by omega
      have HFF : Hid (fstE (LL L) = 0) := by have := HF.out; rwa [← LL_len L, List.take_length] at this
      go_wp2_with fail
      go_loop [4, 7] (fun o i => ∃ k : Nat, k ≤ L.length ∧ o = .string (bs (lineL ((LL L).take k))) ∧ i = .int .i64 k ∧ (lineL ((LL L).take k)).length ≤ 1024) (fun _ i => L.length - (intOf i).toNat)
      case atStart => exact ⟨0, Nat.zero_le _, rfl, rfl, by simp [lineL]⟩
      case round =>
        obtain ⟨k, hk, rfl, rfl, hl⟩ := hrel
        obtain ⟨X, hX⟩ : ∃ X, X = lineL ((LL L).take k) := ⟨_, rfl⟩
        rw [← hX] at hl ⊢
        rcases Nat.lt_or_ge k L.length with hlt | hge
        · obtain ⟨s, hs⟩ := get_lt hlt
          obtain ⟨b, off, rfl, hb, hc⟩ := HA.out k s hs
          have HX := Lib.hid (LL_get hs)
          have hs256 : s.size ≤ 256 := by have := (fldE_ok.mp (fstE_ok_at HFF.out HX.out)).1; rwa [str_len] at this
          have HC := Lib.hid (ref_form s w (by omega))
          obtain ⟨F, hF⟩ : ∃ F, F = formL (ls s) := ⟨_, rfl⟩
          have hFl : F.length ≤ 514 := by rw [hF]; have := formL_len (ls s); rw [ls_len] at this; omega
          rw [← hF] at HC
          obtain ⟨Y, hY⟩ : ∃ Y, Y = lineL ((LL L).take (k + 1)) := ⟨_, rfl⟩
          rcases Nat.eq_zero_or_pos k with h0 | h0
          · have i3 : decide (0 < k) = false := decide_eq_false (by omega)
            have hXY : X ++ F = Y := by rw [hY, line_next HX.out, if_pos h0, hF, hX, h0]; simp [lineL, ls]
            have C2 := cat_bs X F (by omega)
            rw [hXY] at C2
            have hYs : (bs Y).size = Y.length := bs_size Y
            have hYl : Y.length ≤ 9223372036854775807 := by rw [← hXY, List.length_append]; omega
            clear h0 hs hXY
            by_cases hfull : 1024 < Y.length
            · have i2 : (1024 : Int) < (Y.length : Int) := by omega
              have HE : Hid (joinE (LL L) = 8 ∧ joinL (LL L) = []) := long_line HFF.out (k := k + 1) (by rw [← hY]; exact hfull)
              clear hfull hY hX hF
              go_wp2_with fail
              refine HC.out.mono ?_
              rintro e1 w1 ⟨rfl, rfl⟩
              go_wp2_with fail
              go_ret2
              exact ⟨ret_two (by rw [HE.out.2]; rfl) HE.out.1.symm, rfl⟩
            · have i2 : decide ((1024 : Int) < (Y.length : Int)) = false := decide_eq_false (by omega)
              have HY := Lib.hid hY
              have HYL : Hid (Y.length ≤ 1024) := show _ ≤ _ by omega
              clear hfull hY hX hF
              go_wp2_with fail
              refine HC.out.mono ?_
              rintro e1 w1 ⟨rfl, rfl⟩
              go_wp2_with fail
              go_round
              case rel => exact ⟨k + 1, by omega, by rw [HY.out], by go_num, by rw [← HY.out]; exact HYL.out⟩
              case measure => simp [intOf]; omega
          · have i3 : decide (0 < k) = true := decide_eq_true h0
            have hXY : X ++ [32] ++ F = Y := by rw [hY, line_next HX.out, if_neg (by omega), hF, hX]; simp [ls]
            have C1 := cat_lit X 32 (by omega)
            have C2 := cat_bs (X ++ [32]) F (by simp; omega)
            rw [hXY] at C2
            have hYs : (bs Y).size = Y.length := bs_size Y
            have hYl : Y.length ≤ 9223372036854775807 := by rw [← hXY, List.length_append]; simp; omega
            clear hs hXY
            by_cases hfull : 1024 < Y.length
            · have i2 : (1024 : Int) < (Y.length : Int) := by omega
              have HE : Hid (joinE (LL L) = 8 ∧ joinL (LL L) = []) := long_line HFF.out (k := k + 1) (by rw [← hY]; exact hfull)
              clear hfull hY hX hF
              go_wp2_with fail
              refine HC.out.mono ?_
              rintro e1 w1 ⟨rfl, rfl⟩
              go_wp2_with fail
              go_ret2
              exact ⟨ret_two (by rw [HE.out.2]; rfl) HE.out.1.symm, rfl⟩
            · have i2 : decide ((1024 : Int) < (Y.length : Int)) = false := decide_eq_false (by omega)
              have HY := Lib.hid hY
              have HYL : Hid (Y.length ≤ 1024) := show _ ≤ _ by omega
              clear hfull hY hX hF
              go_wp2_with fail
              refine HC.out.mono ?_
              rintro e1 w1 ⟨rfl, rfl⟩
              go_wp2_with fail
              go_round
              case rel => exact ⟨k + 1, by omega, by rw [HY.out], by go_num, by rw [← HY.out]; exact HYL.out⟩
              case measure => simp [intOf]; omega
        · obtain rfl : k = L.length := by omega
          have e : X = lineL (LL L) := by rw [hX, ← LL_len L, List.take_length]
          have HE := Lib.hid (whole_line HFF.out (by rw [← e]; exact hl))
          have HX := Lib.hid e
          clear hX e
          go_wp2_with fail
          go_ret2
          exact ⟨ret_two (by rw [HE.out.2, HX.out]) HE.out.1.symm, rfl⟩
#print axioms ref_Join
end Go.Proofs.YthiebggamfmjgaaDoor.Field
