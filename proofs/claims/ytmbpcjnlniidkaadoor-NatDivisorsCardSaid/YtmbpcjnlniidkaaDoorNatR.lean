/- Contracts of at, fit, Add, minus, Sub of the reference. -/
import Derived.Test.YtmbpcjnlniidkaaDoorNatQ
namespace Go.Proofs.YtmbpcjnlniidkaaDoor
open Go.ChangeShapes Go.WideShapes Go.RowKit
set_option linter.unusedVariables false

theorem ref_at (zs : List Int) (A : Option Addr) (c i : Nat) (lo hi : Nat) (w : World) (hS : Holds w lo hi A zs) (hi : i ≤ 9223372036854775807) :
    Calls Tryd.prog 50 #[.slice A zs.length c, .int .i64 (i : Int)] w fun e w' => e = .returned (.int .i64 (zs.getD i 0)) ∧ w = w' := by
  rcases Nat.lt_or_ge i zs.length with h | h
  · have hz : zs[i]? = some zs[i] := List.getElem?_eq_getElem h
    obtain ⟨z, hz'⟩ : ∃ z, z = zs[i] := ⟨_, rfl⟩
    rw [← hz'] at hz
    obtain ⟨b, off, rfl, _, _, hcell⟩ := hS i z hz
    have hv : zs.getD i 0 = z := by rw [List.getD_eq_getElem?_getD, hz]; rfl
    have HV := Lib.hid hv
    have h' : (i : Int) < (zs.length : Int) := by omega
    clear hz hz' hS hv
    go_enter Tryd.func50, Tryd.ntmps50
    go_wp2
    go_ret
    exact ⟨ret_int HV.out.symm, rfl⟩
  · have hv : zs.getD i 0 = 0 := by rw [List.getD_eq_getElem?_getD, List.getElem?_eq_none h]; rfl
    have HV := Lib.hid hv
    have h' : decide ((i : Int) < (zs.length : Int)) = false := decide_eq_false (by omega)
    clear hS hv
    go_enter Tryd.func50, Tryd.ntmps50
    go_wp2
    go_ret
    exact ⟨ret_int HV.out.symm, rfl⟩

set_option maxHeartbeats 1600000 in
theorem ref_fit (zs : List Int) (va : Value) (w : World) (ha : In w va zs) (hk : lok zs = true) (hl : zs.length ≤ 100000) :
    Calls Tryd.prog 44 #[va] w (Res w (fitN (nval zs).toNat) (fitE (nval zs).toNat)) := by
  obtain ⟨A, c, rfl, hc, hm, hA⟩ := ha
  have HS := Lib.hid hA
  have hm' : c ≤ 9223372036854775807 := hm
  have hlm : trimL zs = limbs (nval zs).toNat := trimL_limbs hk
  have HLM := Lib.hid hlm
  clear hA hm hlm hk
  go_enter Tryd.func44, Tryd.ntmps44
  go_wp2_with fail
  go_loop [4] (fun v => ∃ k : Nat, k ≤ zs.length ∧ v = .int .i64 k ∧ trimL (zs.take k) = trimL zs) (fun v => (intOf v).toNat)
  case atStart => exact ⟨zs.length, Nat.le_refl _, rfl, by rw [List.take_length]⟩
  case round =>
    obtain ⟨k, hk, rfl, ht⟩ := hrel
    have HT := Lib.hid ht
    clear ht
    -- the loop's end, at k limbs
    have fin : trimL zs = zs.take k → (Hid (48 < k ∧ fitN (nval zs).toNat = 0 ∧ fitE (nval zs).toNat = 2)) ∨ Hid (k ≤ 48 ∧ zs.take k = limbs (fitN (nval zs).toNat) ∧ fitE (nval zs).toNat = 0) := by
      intro he
      have hlen : (limbs (nval zs).toNat).length = k := by rw [← HLM.out, he, List.length_take]; omega
      rcases Nat.lt_or_ge 48 k with h | h
      · left
        have : ¬ (nval zs).toNat < 1000000000 ^ 48 := fun h2 => by have := limbs_len_le.mpr h2; omega
        exact ⟨h, if_neg this, if_neg this⟩
      · right
        have : (nval zs).toNat < 1000000000 ^ 48 := limbs_len_le.mp (by omega)
        exact ⟨h, by rw [fitN, if_pos this, ← HLM.out, he], if_pos this⟩
    have FIN := Lib.hid fin
    have HAL := Lib.hid ((Holds.take HS.out k).below (below_alloc w (.cells #[] 3)) (Nat.le_refl _))
    have HOE := Lib.hid (own_empty w)
    have htl : (zs.take k).length = k := by rw [List.length_take]; omega
    have HTL := Lib.hid htl
    have HLEN := Lib.hid (show ([] : List Int).length + (zs.take k).length ≤ 1000000 by rw [htl]; simp; omega)
    have hkc : (k : Int) ≤ (c : Int) := by omega
    clear fin htl
    rcases Nat.eq_zero_or_pos k with rfl | hp
    · have he := HT.out
      rw [List.take_zero] at he
      rcases FIN.out (by rw [List.take_zero]; exact he.symm) with hf | hf
      · exact absurd hf.out.1 (by omega)
      · clear he
        go_wp2_with (first
          | (at_builtin; refine append_holds rfl (.tmp 21) (.tmp 24) rfl w.heap.size _ [] rfl HOE.out 0 w.heap.size A c (zs.take 0) 0 rfl rfl HAL.out HLEN.out (by simp) ?_; intro v' w5 hown hgrow; refine Hid.out ?_)
          | fail)
        refine Lib.hid ?_
        rw [List.nil_append] at hown
        have hb5 : Below w.heap.size w w5 := (below_alloc _ _).grown hgrow (by simp) (own_block_ge HOE.out)
        have HSL := Lib.hid (sl_of_owns hown)
        have HB5 := Lib.hid hb5
        clear hown hgrow hb5
        go_wp2_with fail
        go_ret2
        exact ⟨v', by rw [hf.out.2.2]; rfl, by rw [← hf.out.2.1]; exact HSL.out, HB5.out⟩
    · obtain ⟨k, rfl⟩ : ∃ j, k = j + 1 := ⟨k - 1, by omega⟩
      obtain ⟨z, hz⟩ : ∃ z, zs[k]? = some z := ⟨_, List.getElem?_eq_getElem (by omega)⟩
      obtain ⟨b, off, rfl, _, _, hcell⟩ := HS.out _ z hz
      have HZ := Lib.hid hz
      clear hz
      have e2 : ((k + 1 : Nat) : Int) - 1 = k := by omega
      by_cases h0 : z = 0
      · subst h0
        go_wp2_with fail
        go_round
        case rel =>
          refine ⟨k, by omega, by go_num, ?_⟩
          rw [← HT.out, trim_step HZ.out, trimL_snoc_zero]
        case measure => simp [intOf] <;> omega
      · have H0 := Lib.hid h0
        have he : trimL zs = zs.take (k + 1) := by rw [← HT.out, trim_step HZ.out, trimL_snoc H0.out]
        rcases FIN.out he with hf | hf
        · have h48 : (48 : Int) < ((k + 1 : Nat) : Int) := by have := hf.out.1; omega
          clear he
          go_wp2_with fail
          go_ret2
          exact Res.none hf.out.2.1 hf.out.2.2 rfl (Below.refl _ _)
        · have h48 : decide ((48 : Int) < (k : Int) + 1) = false := decide_eq_false (by have := hf.out.1; omega)
          clear he
          go_wp2_with (first
            | (at_builtin; refine append_holds rfl (.tmp 21) (.tmp 24) rfl w.heap.size _ [] rfl HOE.out 0 w.heap.size (some ⟨b, off, none⟩) c (zs.take (k + 1)) (k + 1) HTL.out.symm rfl HAL.out HLEN.out (by simp) ?_; intro v' w5 hown hgrow; refine Hid.out ?_)
            | fail)
          refine Lib.hid ?_
          rw [List.nil_append] at hown
          have hb5 : Below w.heap.size w w5 := (below_alloc _ _).grown hgrow (by simp) (own_block_ge HOE.out)
          have HSL := Lib.hid (sl_of_owns hown)
          have HB5 := Lib.hid hb5
          clear hown hgrow hb5
          go_wp2_with fail
          go_ret2
          exact ⟨v', by rw [hf.out.2.2]; rfl, by rw [← hf.out.2.1]; exact HSL.out, HB5.out⟩
#print axioms ref_fit
end Go.Proofs.YtmbpcjnlniidkaaDoor
