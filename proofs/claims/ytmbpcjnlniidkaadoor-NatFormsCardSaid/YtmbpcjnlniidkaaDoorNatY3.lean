/- The contract of Text of the reference. -/
import Derived.Test.YtmbpcjnlniidkaaDoorNatY2
namespace Go.Proofs.YtmbpcjnlniidkaaDoor
open Go.ChangeShapes Go.WideShapes Go.RowKit
set_option linter.unusedVariables false

theorem top_pos_last {ys : List Int} {b : Int} (hy : nrm ys = true) (hp : 0 < ys.length) (hb : ys[ys.length - 1]? = some b) : 0 < b := by
  have h := nrm_lok hy
  have b0 := lok_at h hb
  rcases Int.lt_or_eq_of_le b0.1 with h1 | h1
  · exact h1
  · exfalso
    subst h1
    have : ys.getLast? = some 0 := by rw [List.getLast?_eq_getElem?]; exact hb
    simp [nrm, this] at hy
theorem rtext_step {xs : List Int} {k : Nat} {x : Int} {S T : ByteArray} (hl : lok xs = true) (hx : xs[k]? = some x) (hk : k < xs.length) (hT : T.data.toList = limbL x.toNat true) (hS : S.data.toList = padD (9 * k) (nval (xs.take k)).toNat) :
    (T ++ S).data.toList = padD (9 * (k + 1)) (nval (xs.take (k + 1))).toNat := by
  rw [ByteArray.data_append, Array.toList_append, hT, hS, nval_nat_snoc hx hl, show 9 * (k + 1) = 9 + 9 * k by omega, padD_add _ _ _ _ (take_nat_lt hl (by omega))]
  rfl
theorem rtext_last {xs : List Int} {x : Int} {S T : ByteArray} (hv : validB xs = true) (hp : 0 < xs.length) (hx : xs[xs.length - 1]? = some x) (hT : T.data.toList = limbL x.toNat false) (hS : S.data.toList = padD (9 * (xs.length - 1)) (nval (xs.take (xs.length - 1))).toNat) :
    T ++ S = textV xs ∧ 0 < x.toNat := by
  have hl := valid_lok hv
  have xp : 0 < x := by
    have := top_pos_last (valid_nrm hv) hp hx
    exact this
  have h := nval_nat_snoc hx hl
  rw [show xs.length - 1 + 1 = xs.length by omega, List.take_length] at h
  refine ⟨bytes_inj ?_, by omega⟩
  rw [ByteArray.data_append, Array.toList_append, hT, hS, textV, hv]
  show limbL x.toNat false ++ _ = Lib.decDigits (nval xs).toNat
  rw [h, dec_pad _ _ _ (by omega) (take_nat_lt hl (by omega))]
  rfl

theorem fin_text {xs : List Int} {s : ByteArray} {n : Int} {w w' : World} (h1 : s = textV xs) (h2 : n = oneE xs) (h3 : w = w') : Ending.returned (.tuple #[.string s, .int .i64 n]) = Ending.returned (.tuple #[.string (textV xs), .int .i64 (oneE xs)]) ∧ w = w' := by
  subst h1 h2; exact ⟨rfl, h3⟩

set_option maxHeartbeats 1600000 in
theorem ref_Text (xs : List Int) (va : Value) (w : World) (ha : In w va xs) :
    Calls Tryd.prog 19 #[va] w fun e w' => e = .returned (.tuple #[.string (textV xs), .int .i64 (oneE xs)]) ∧ w = w' := by
  obtain ⟨A, c, rfl, hc, hm, hA⟩ := ha
  have HA := Lib.hid hA
  have hm1 : xs.length ≤ 9223372036854775807 := Nat.le_trans hc hm
  clear hA hm
  cases hx : validB xs with
  | false =>
    have HX := Lib.hid hx
    go_enter Tryd.func19, Tryd.ntmps19
    go_wp2_with fail
    refine (ref_Valid xs A c _ _ w HA.out hm1).mono ?_
    rintro e w' ⟨rfl, rfl⟩
    go_wp2_with fail
    go_ret2
    exact fin_text (by rw [textV, HX.out]; rfl) (by rw [oneE, HX.out]; rfl) rfl
  | true =>
    have HX := Lib.hid hx
    have l1 := valid_len hx
    rcases Nat.eq_zero_or_pos xs.length with h0 | hp
    · have hnil : xs = [] := List.eq_nil_of_length_eq_zero h0
      subst hnil
      have hz : decS (nval []).toNat = ⟨#[48]⟩ := by show decS 0 = _; unfold decS; rw [Lib.decDigits_one (by decide)]; rfl
      have HZ := Lib.hid hz
      clear hz
      go_enter Tryd.func19, Tryd.ntmps19
      go_wp2_with fail
      refine (ref_Valid [] A c _ _ w HA.out hm1).mono ?_
      rintro e w' ⟨rfl, rfl⟩
      go_wp2_with fail
      go_ret2
      exact fin_text (by rw [textV, if_pos validB_nil, HZ.out]) (by rw [oneE, if_pos validB_nil]) rfl
    · have hne : ((xs.length : Int) == 0) = false := beq_false_of_ne (by omega)
      clear hx
      go_enter Tryd.func19, Tryd.ntmps19
      go_wp2_with fail
      refine (ref_Valid xs A c _ _ w HA.out hm1).mono ?_
      rintro e w' ⟨rfl, rfl⟩
      rw [HX.out]
      go_wp2_with fail
      go_loop [4, 5] (fun sv iv => ∃ (k : Nat) (S : ByteArray), k ≤ xs.length ∧ iv = .int .i64 (k : Int) ∧ sv = .string S ∧ S.size ≤ 9 * k ∧ (k < xs.length → S.data.toList = padD (9 * k) (nval (xs.take k)).toNat) ∧ (k = xs.length → S = textV xs)) (fun _ iv => xs.length - (intOf iv).toNat)
      case atStart => exact ⟨0, ⟨#[]⟩, Nat.zero_le _, rfl, rfl, by simp [ByteArray.size], fun _ => rfl, fun h => absurd h (by omega)⟩
      case round =>
        obtain ⟨k, S, hk, rfl, rfl, hsz, hS, hE⟩ := hrel
        have HS := Lib.hid hS
        have HE := Lib.hid hE
        clear hS hE
        rcases Nat.lt_or_ge k xs.length with hlt | hge
        · obtain ⟨x, hxk⟩ : ∃ x, xs[k]? = some x := ⟨_, List.getElem?_eq_getElem hlt⟩
          obtain ⟨b, off, rfl, _, _, hcell⟩ := HA.out k x hxk
          have xb := lok_at (valid_lok HX.out) hxk
          have ex : x = ((x.toNat : Nat) : Int) := by omega
          obtain ⟨n, hn⟩ : ∃ n, n = x.toNat := ⟨_, rfl⟩
          rw [← hn] at ex
          have hn9 : n < 1000000000 := by omega
          have HN := Lib.hid hn
          have HXK := Lib.hid hxk
          subst ex
          clear hxk hn xb
          by_cases hlast : k < xs.length - 1
          · have hl : (k : Int) < (xs.length : Int) - 1 := by omega
            go_wp2_with fail
            refine (ref_limb n true w hn9 (Or.inl rfl)).mono ?_
            rintro e w' ⟨T, rfl, hT, hTs, rfl⟩
            go_wp2_with fail
            go_round
            case rel =>
              refine ⟨k + 1, T ++ S, by omega, by go_num, rfl, by rw [ByteArray.size_append]; omega, fun _ => ?_, fun h => absurd h (by omega)⟩
              exact rtext_step (valid_lok HX.out) HXK.out hlt (by rw [Int.toNat_natCast]; exact hT.out) (HS.out hlt)
            case measure => simp [intOf]; omega
          · have hl : decide ((k : Int) < (xs.length : Int) - 1) = false := decide_eq_false (by omega)
            have hke : k = xs.length - 1 := by omega
            have hnp : 0 < n := by
              have h := HXK.out
              rw [hke] at h
              have := top_pos_last (valid_nrm HX.out) hp h
              omega
            have HKE := Lib.hid hke
            clear hke
            go_wp2_with fail
            refine (ref_limb n false w hn9 (Or.inr hnp)).mono ?_
            rintro e w' ⟨T, rfl, hT, hTs, rfl⟩
            go_wp2_with fail
            go_round
            case rel =>
              refine ⟨k + 1, T ++ S, by omega, by go_num, rfl, by rw [ByteArray.size_append]; omega, fun h => absurd h (by omega), fun _ => ?_⟩
              have h1 := HXK.out
              have h2 := HS.out hlt
              rw [HKE.out] at h1 h2
              exact (rtext_last HX.out hp h1 (by rw [Int.toNat_natCast]; exact hT.out) h2).1
            case measure => simp [intOf]; omega
        · obtain rfl : k = xs.length := by omega
          have HF := Lib.hid (HE.out rfl)
          go_wp2_with fail
          go_ret2
          exact fin_text HF.out (by rw [oneE, HX.out]; rfl) rfl
#print axioms ref_Text
end Go.Proofs.YtmbpcjnlniidkaaDoor
