/- Contracts of nat.Valid, of Valid and Same of the reference. -/
import Derived.Test.YtmbpcjnlniidkaaDoorNatE
namespace Go.Proofs.YtmbpcjnlniidkaaDoor
open Go.ChangeShapes Go.WideShapes Go.RowKit
set_option linter.unusedVariables false

theorem validB_long {l : List Int} (h : 48 < l.length) : validB l = false := by simp [validB]; intro h2; omega
theorem validB_bad {l : List Int} {k : Nat} {z : Int} (hz : l[k]? = some z) (h : z < 0 ∨ 1000000000 ≤ z) : validB l = false := by
  cases hv : validB l with
  | false => rfl
  | true => have := lok_at (nrm_lok (validB_iff.mp hv).2) hz; omega
theorem validB_nil : validB [] = true := rfl
theorem last_some {l : List Int} {z : Int} (hz : l[l.length - 1]? = some z) : l.getLast? = some z := by rw [List.getLast?_eq_getElem?]; exact hz
theorem validB_zero {l : List Int} (hz : l[l.length - 1]? = some 0) : validB l = false := by
  cases hv : validB l with
  | false => rfl
  | true => have := (validB_iff.mp hv).2; simp [nrm, last_some hz] at this
theorem validB_end {l : List Int} {z : Int} (h : l.length ≤ 48) (hk : lok l = true) (hz : l[l.length - 1]? = some z) (h0 : z ≠ 0) : validB l = true :=
  validB_iff.mpr ⟨h, by simp [nrm, hk, last_some hz, h0]⟩
theorem lok_take_succ {l : List Int} {k : Nat} {z : Int} (h : lok (l.take k) = true) (hz : l[k]? = some z) (h1 : 0 ≤ z) (h2 : z < 1000000000) : lok (l.take (k + 1)) = true := by
  rw [trim_step hz, lok_append]; exact ⟨h, by simp [lok, h1, h2]⟩

set_option maxHeartbeats 800000 in
theorem nat_Valid (zs : List Int) (A : Option Addr) (c : Nat) (lo hi : Nat) (w : World) (hS : Holds w lo hi A zs) (hm : zs.length ≤ 9223372036854775807) :
    Calls Tryd.prog 22 #[.slice A zs.length c] w fun e w' => e = .returned (.bool (validB zs)) ∧ w = w' := by
  have HS := Lib.hid hS
  clear hS
  by_cases hl : 48 < zs.length
  · have hl' : (48 : Int) < zs.length := by omega
    have hv := validB_long hl
    go_enter Tryd.func22, Tryd.ntmps22
    go_wp2
    go_ret
    rw [hv]; exact ⟨rfl, rfl⟩
  · have hl' : (zs.length : Int) ≤ 48 := by omega
    have hd : decide ((48 : Int) < (zs.length : Int)) = false := decide_eq_false (by omega)
    have hl2 : zs.length ≤ 48 := by omega
    clear hl
    go_enter Tryd.func22, Tryd.ntmps22
    go_wp2_with fail
    go_loop [9] (fun i => ∃ k : Nat, k ≤ zs.length ∧ i = .int .i64 k ∧ lok (zs.take k) = true) (fun i => zs.length - (intOf i).toNat)
    case atStart => exact ⟨0, Nat.zero_le _, rfl, rfl⟩
    case round =>
      obtain ⟨k, hk, rfl, hz⟩ := hrel
      have HK := Lib.hid hz
      clear hz
      rcases Nat.lt_or_ge k zs.length with hlt | hge
      · obtain ⟨z, hz⟩ : ∃ z, zs[k]? = some z := ⟨_, List.getElem?_eq_getElem hlt⟩
        obtain ⟨b, off, rfl, _, _, hcell⟩ := HS.out k z hz
        have HZ := Lib.hid hz
        clear hz
        rcases Int.lt_or_le z 0 with h0 | h0
        · have hv := validB_bad HZ.out (Or.inl h0)
          have HV := Lib.hid hv
          clear hv
          go_wp2_with fail
          go_ret
          rw [HV.out]; exact ⟨rfl, rfl⟩
        · rcases Int.lt_or_le z 1000000000 with h1 | h1
          · go_wp2_with fail
            go_round
            case rel => exact ⟨k + 1, by omega, by go_num, lok_take_succ HK.out HZ.out h0 h1⟩
            case measure => simp [intOf]; omega
          · have hv := validB_bad HZ.out (Or.inr h1)
            have HV := Lib.hid hv
            clear hv
            go_wp2_with fail
            go_ret
            rw [HV.out]; exact ⟨rfl, rfl⟩
      · obtain rfl : k = zs.length := by omega
        have hall : lok zs = true := by have := HK.out; rwa [List.take_length] at this
        have HALL := Lib.hid hall
        clear hall
        rcases Nat.eq_zero_or_pos zs.length with h0 | hp
        · have hn : zs = [] := List.eq_nil_of_length_eq_zero h0
          subst hn
          go_wp2_with fail
          go_ret
          rw [validB_nil]; exact ⟨rfl, rfl⟩
        · obtain ⟨z, hz⟩ : ∃ z, zs[zs.length - 1]? = some z := ⟨_, List.getElem?_eq_getElem (by omega)⟩
          obtain ⟨b, off, rfl, _, _, hcell⟩ := HS.out _ z hz
          have hne : ((zs.length : Int) == 0) = false := beq_false_of_ne (by omega)
          have e1 : (zs.length : Int) - 1 = ((zs.length - 1 : Nat) : Int) := by omega
          have HZ := Lib.hid hz
          clear hz
          by_cases h0 : z = 0
          · subst h0
            have hv := validB_zero HZ.out
            have HV := Lib.hid hv
            clear hv
            go_wp2_with fail
            go_ret
            rw [HV.out]; exact ⟨rfl, rfl⟩
          · have hv := validB_end hl2 HALL.out HZ.out h0
            have HV := Lib.hid hv
            clear hv
            have hz0 : (z == 0) = false := by simpa using h0
            have hz1 : (z != 0) = true := by simpa using h0
            go_wp2_with fail
            go_ret
            rw [HV.out]; exact ⟨rfl, rfl⟩

set_option maxHeartbeats 800000 in
theorem ref_Valid (zs : List Int) (A : Option Addr) (c : Nat) (lo hi : Nat) (w : World) (hS : Holds w lo hi A zs) (hm : zs.length ≤ 9223372036854775807) :
    Calls Tryd.prog 23 #[.slice A zs.length c] w fun e w' => e = .returned (.bool (validB zs)) ∧ w = w' := by
  have HS := Lib.hid hS
  clear hS
  have main : ∀ (hl2 : zs.length ≤ 48), (zs = [] ∨ ∃ z b off, z ≠ 0 ∧ zs[zs.length - 1]? = some z ∧ A = some ⟨b, off, none⟩ ∧ w.cell? ⟨b, off + (zs.length - 1), none⟩ = some (.int .i64 z)) →
      Calls Tryd.prog 23 #[.slice A zs.length c] w fun e w' => e = .returned (.bool (validB zs)) ∧ w = w' := by
    intro hl2 hcase
    have hd : decide ((48 : Int) < (zs.length : Int)) = false := decide_eq_false (by omega)
    have hend : lok zs = true → validB zs = true := by
      rcases hcase with h | ⟨z, b, off, h0, hz, _, _⟩
      · subst h; intro _; exact validB_nil
      · exact fun h => validB_end hl2 h hz h0
    have HE := Lib.hid hend
    clear hend
    have hstart : (zs = [] ∧ (decide ((0 : Int) < (zs.length : Int)) = false)) ∨ (∃ z b off, (z == (0 : Int)) = false ∧ A = some ⟨b, off, none⟩ ∧ w.cell? ⟨b, off + (zs.length - 1), none⟩ = some (.int .i64 z) ∧ 0 < zs.length ∧ (zs.length : Int) - 1 = ((zs.length - 1 : Nat) : Int)) := by
      rcases hcase with h | ⟨z, b, off, h0, hz, hA, hc⟩
      · subst h; exact Or.inl ⟨rfl, rfl⟩
      · have hp : 0 < zs.length := by
          rcases Nat.eq_zero_or_pos zs.length with h | h
          · have : zs = [] := List.eq_nil_of_length_eq_zero h
            subst this; simp at hz
          · exact h
        exact Or.inr ⟨z, b, off, by simpa using h0, hA, hc, hp, by omega⟩
    clear hcase
    rcases hstart with ⟨hn, _⟩ | ⟨z, b, off, h0, rfl, hcell, hp, e1⟩
    · subst hn
      go_enter Tryd.func23, Tryd.ntmps23
      go_wp2_with fail
      refine wp_loop_rounds 1 ?_
      rw [rounds_succ]
      go_wp2_with fail
      go_ret
      exact ⟨rfl, rfl⟩
    · have hp' : (0 : Int) < zs.length := by omega
      go_enter Tryd.func23, Tryd.ntmps23
      go_wp2_with fail
      go_loop [3] (fun i => ∃ k : Nat, k ≤ zs.length ∧ i = .int .i64 k ∧ lok (zs.take k) = true) (fun i => zs.length - (intOf i).toNat)
      case atStart => exact ⟨0, Nat.zero_le _, rfl, rfl⟩
      case round =>
        clear hcell e1
        obtain ⟨k, hk, rfl, hz⟩ := hrel
        have HK := Lib.hid hz
        clear hz
        rcases Nat.lt_or_ge k zs.length with hlt | hge
        · obtain ⟨z, hz⟩ : ∃ z, zs[k]? = some z := ⟨_, List.getElem?_eq_getElem hlt⟩
          obtain ⟨b', off', hA, _, _, hcell⟩ := HS.out k z hz
          cases hA
          have HZ := Lib.hid hz
          clear hz
          rcases Int.lt_or_le z 0 with h0 | h0
          · have hv := validB_bad HZ.out (Or.inl h0)
            have HV := Lib.hid hv
            clear hv
            go_wp2_with fail
            go_ret
            rw [HV.out]; exact ⟨rfl, rfl⟩
          · rcases Int.lt_or_le z 1000000000 with h1 | h1
            · go_wp2_with fail
              go_round
              case rel => exact ⟨k + 1, by omega, by go_num, lok_take_succ HK.out HZ.out h0 h1⟩
              case measure => simp [intOf]; omega
            · have hv := validB_bad HZ.out (Or.inr h1)
              have HV := Lib.hid hv
              clear hv
              go_wp2_with fail
              go_ret
              rw [HV.out]; exact ⟨rfl, rfl⟩
        · obtain rfl : k = zs.length := by omega
          have hall : lok zs = true := by have := HK.out; rwa [List.take_length] at this
          have HV := Lib.hid (HE.out hall)
          clear hall
          go_wp2_with fail
          go_ret
          rw [HV.out]; exact ⟨rfl, rfl⟩
  by_cases hl : 48 < zs.length
  · have hl' : (48 : Int) < zs.length := by omega
    have hv := validB_long hl
    clear main
    go_enter Tryd.func23, Tryd.ntmps23
    go_wp2
    go_ret
    rw [hv]; exact ⟨rfl, rfl⟩
  · rcases Nat.eq_zero_or_pos zs.length with h0 | hp
    · exact main (by omega) (Or.inl (List.eq_nil_of_length_eq_zero h0))
    · obtain ⟨z, hz⟩ : ∃ z, zs[zs.length - 1]? = some z := ⟨_, List.getElem?_eq_getElem (by omega)⟩
      obtain ⟨b, off, rfl, _, _, hcell⟩ := HS.out _ z hz
      by_cases h0 : z = 0
      · subst h0
        have hv := validB_zero hz
        have HV := Lib.hid hv
        have hp' : (0 : Int) < zs.length := by omega
        have hd : decide ((48 : Int) < (zs.length : Int)) = false := decide_eq_false (by omega)
        have e1 : (zs.length : Int) - 1 = ((zs.length - 1 : Nat) : Int) := by omega
        clear main hv hz hl
        go_enter Tryd.func23, Tryd.ntmps23
        go_wp2
        go_ret
        rw [HV.out]; exact ⟨rfl, rfl⟩
      · exact main (by omega) (Or.inr ⟨z, b, off, h0, hz, rfl, hcell⟩)

theorem same_end {xs ys : List Int} (hl : xs.length = ys.length) (h : xs.take xs.length = ys.take xs.length) : xs = ys := by
  rw [List.take_length] at h; rw [h, List.take_of_length_le (by omega)]

set_option maxHeartbeats 800000 in
theorem ref_Same (xs ys : List Int) (A B : Option Addr) (c d : Nat) (lo hi lo' hi' : Nat) (w : World) (hS : Holds w lo hi A xs) (hT : Holds w lo' hi' B ys) (hh : hi ≤ w.heap.size) (hh' : hi' ≤ w.heap.size)
    (hm : xs.length ≤ 9223372036854775807) (hm2 : ys.length ≤ 9223372036854775807) :
    Calls Tryd.prog 24 #[.slice A xs.length c, .slice B ys.length d] w fun e w' => e = .returned (.bool (decide (xs = ys))) ∧ Below w.heap.size w w' := by
  have HS := Lib.hid hS
  have HT := Lib.hid hT
  clear hS hT
  by_cases hl : xs.length = ys.length
  · go_enter Tryd.func24, Tryd.ntmps24
    rw [← hl]
    have HL := Lib.hid hl
    clear hl hm2
    go_wp2_with fail
    go_loopw [5] (fun i wr => ∃ k : Nat, k ≤ xs.length ∧ i = .int .i64 k ∧ xs.take k = ys.take k ∧ Below w.heap.size w wr) (fun i _ => xs.length - (intOf i).toNat)
    case atStart => exact ⟨0, Nat.zero_le _, rfl, rfl, Below.refl _ _⟩
    case round =>
      obtain ⟨k, hk, rfl, hz, hbel⟩ := hrel
      have HK := Lib.hid hz
      have HB := Lib.hid hbel
      clear hz hbel
      rcases Nat.lt_or_ge k xs.length with hlt | hge
      · obtain ⟨z, hz⟩ : ∃ z, xs[k]? = some z := ⟨_, List.getElem?_eq_getElem hlt⟩
        obtain ⟨y, hy⟩ : ∃ y, ys[k]? = some y := ⟨_, List.getElem?_eq_getElem (by have := HL.out; omega)⟩
        obtain ⟨b, off, rfl, _, _, hcell⟩ := (HS.out.below HB.out hh) k z hz
        obtain ⟨b2, off2, rfl, _, _, hcell2⟩ := (HT.out.below HB.out hh') k y hy
        have HZ := Lib.hid hz
        have HY := Lib.hid hy
        clear hz hy
        by_cases h0 : z = y
        · subst h0
          have hne : (z != z) = false := by simp
          go_wp2_with fail
          go_quiet (fail)
          go_wp2_with fail
          go_roundw
          case rel => exact ⟨k + 1, by omega, by go_num, by rw [trim_step HZ.out, trim_step HY.out, HK.out], below_drewN HB.out _⟩
          case measure => simp [intOf]; omega
        · have hne : (z != y) = true := by simpa using h0
          have hv : ¬ xs = ys := by
            rintro rfl; have h1 := HZ.out; rw [HY.out] at h1; cases h1; exact h0 rfl
          have HV := Lib.hid hv
          clear hv h0
          go_wp2_with fail
          go_quiet (fail)
          go_wp2_with fail
          go_ret
          rw [decide_eq_false HV.out]; exact ⟨rfl, below_drewN HB.out _⟩
      · obtain rfl : k = xs.length := by omega
        have HE := Lib.hid (same_end HL.out HK.out)
        go_wp2_with fail
        go_ret
        rw [decide_eq_true HE.out]; exact ⟨rfl, HB.out⟩
  · have hne : ((xs.length : Int) != (ys.length : Int)) = true := by simp; omega
    have hv : ¬ xs = ys := fun h => hl (congrArg _ h)
    have HV := Lib.hid hv
    clear hv hl
    go_enter Tryd.func24, Tryd.ntmps24
    go_wp2_with fail
    go_ret
    rw [decide_eq_false HV.out]; exact ⟨rfl, Below.refl _ _⟩
#print axioms nat_Valid
#print axioms ref_Valid
#print axioms ref_Same
end Go.Proofs.YtmbpcjnlniidkaaDoor
