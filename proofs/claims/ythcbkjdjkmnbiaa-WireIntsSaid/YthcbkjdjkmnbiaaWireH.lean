/- Contracts of TakeList of the program and of the reference. -/
import Derived.Test.YthcbkjdjkmnbiaaWireG
namespace Go.Proofs.Ythcbkjdjkmnbiaa.Wire
open Go.ChangeShapes Go.WideShapes Go.RowKit
set_option linter.unusedVariables false
set_option maxRecDepth 100000

set_option maxHeartbeats 1600000 in
theorem wire_TakeList (v : Value) (l : List UInt8) (most : Int) (w : World) (hv : InY w v l) (hl : l.length ≤ 1000000) :
    Calls Try.prog 22 #[v, .int .i64 most] w (LRes (takeL l most) w) := by
  have HC := Lib.hid (wire_length v l most w hv hl)
  obtain ⟨A, c, rfl, hc, hcm, hb⟩ := hv
  have HB := Lib.hid hb
  have HCC := Lib.hid hc
  have HCM := Lib.hid hcm
  have HR := Lib.hid (takeL_def l most)
  have HOK := fun h => Lib.hid (len_facts (l := l) (most := most) h)
  obtain ⟨N, hN⟩ : ∃ N, N = l.length := ⟨_, rfl⟩
  have HN := Lib.hid hN
  rw [← hN] at hl HC ⊢
  obtain ⟨t, ht⟩ : ∃ t, lenR l most = t := ⟨_, rfl⟩
  rw [ht] at HC HR HOK
  obtain ⟨x, k, e⟩ := t
  simp only at HR HOK
  clear ht hb hc hcm hN
  go_enter Try.func22, Try.ntmps22
  go_wp2_with fail
  refine HC.out.mono ?_
  rintro e1 w1 ⟨rfl, rfl⟩
  by_cases he : e = 0
  · subst he
    obtain ⟨hx, hk, _, hi⟩ := (HOK rfl).out
    have hD2 := hi.2
    rw [← HN.out] at hk
    obtain ⟨D, rfl⟩ := Int.eq_ofNat_of_zero_le hx
    rw [if_pos rfl, Int.toNat_natCast] at HR
    clear hx HOK hi
    go_wp2_with fail
    go_loopw [8, 10, 25] (Ll l most D w) (fun k _ _ _ => N - (intOf k).toNat)
    case atStart => exact ⟨0, k, [], rfl, rfl, Nat.zero_le _, by rw [← HN.out]; exact hk, Nat.zero_le _, HR.out, OwnI.nil _ _, Below.refl _ _⟩
    case round =>
      clear hk HR
      obtain ⟨i, k, acc, rfl, rfl, hiD, hk, hacc, hr, ho, hbel⟩ := hrel
      have HR := Lib.hid hr
      have HO := Lib.hid ho
      have HBL := Lib.hid hbel
      have HBR : Hid (w.heap.size ≤ wr.heap.size) := hbel.size
      rw [← HN.out] at hk
      clear hr ho hbel
      rcases Nat.lt_or_ge i D with hlt | hge
      · obtain ⟨A', c', m, hm, hmc, hcc, hsl, hbt⟩ := slice_from (HB.out.on HBL.out) HCC.out k (by rw [← HN.out]; exact hk)
        have HI := Lib.hid (show InY wr (.slice A' m c') (l.drop k) from ⟨A', c', by rw [hm], by rw [hm]; exact hmc, Nat.le_trans hcc HCM.out, hbt⟩)
        have HT := Lib.hid (wire_TakeInt _ _ wr HI.out (by rw [List.length_drop, ← HN.out]; omega))
        have HOKI := fun h => Lib.hid (take_ok (b := l.drop k) h)
        have HGO := fun h => Lib.hid (items_go l k acc (n := D - i) (by omega) h)
        have HNO := fun h => Lib.hid (items_no l k acc (n := D - i) (by omega) h)
        rw [← HN.out] at hsl
        obtain ⟨t, ht⟩ : ∃ t, takeI (l.drop k) = t := ⟨_, rfl⟩
        rw [ht] at HT HGO HNO HOKI
        obtain ⟨x, k1, e⟩ := t
        simp only at HGO HNO HOKI
        clear ht hbt hm hmc hcc
        go_wp2_with fail
        refine HT.out.mono ?_
        rintro e1 w1 ⟨rfl, rfl⟩
        by_cases he : e = 0
        · subst he
          obtain ⟨_, k1p, k1l, _, hxi⟩ := (HOKI rfl).out
          rw [List.length_drop, ← HN.out] at k1l
          have HNX := HGO rfl
          clear HGO HNO HOKI hsl
          go_wp2_with (at_builtin; refine append_int rfl _ _ rfl w.heap.size u10 acc rfl (HO.out.alloc _) wr.heap.size 1 1 x rfl (int_one _ _ _ rfl) (by omega) (by simp; have := HBR.out; omega) ?_; intro v2 w2 hown2 hb2; refine Hid.out ?_)
          refine Lib.hid ?_
          have HO2 := Lib.hid hown2
          have HB2 := Lib.hid hb2
          clear hown2 hb2
          go_wp2_with fail
          go_roundw
          case rel => exact ⟨i + 1, k + k1, acc ++ [x], by go_num, by go_num, by omega, by rw [← HN.out]; omega, by simp; omega, by rw [HR.out, HNX.out]; congr 1, HO2.out, HBL.out.trans (((below_alloc _ _).mono HBR.out).trans HB2.out)⟩
          case measure => simp [intOf]; omega
        · have he0 : (e == 0) = false := by simpa using he
          have HF : Hid (takeL l most = ⟨[], 0, e⟩) := show _ = _ by rw [HR.out, (HNO he).out]
          clear he HGO HNO HOKI hsl
          go_wp2_with fail
          go_ret3
          exact ⟨.slice none 0 0, by rw [HF.out] <;> rfl, by rw [HF.out]; exact OwnI.nil _ _, HBL.out⟩
      · obtain rfl : i = D := by omega
        have HF : Hid (takeL l most = ⟨acc, k, 0⟩) := show _ = _ by rw [HR.out, Nat.sub_self]; rfl
        go_wp2_with fail
        go_ret3
        exact ⟨u10, by rw [HF.out] <;> rfl, by rw [HF.out]; exact HO.out, HBL.out⟩
  · have he0 : (e == 0) = false := by simpa using he
    have HF : Hid (takeL l most = ⟨[], 0, e⟩) := show _ = _ by rw [HR.out, if_neg he]
    clear he HOK
    go_wp2_with fail
    go_ret3
    exact ⟨.slice none 0 0, by rw [HF.out] <;> rfl, by rw [HF.out]; exact OwnI.nil _ _, Below.refl _ _⟩
set_option maxHeartbeats 1600000 in
theorem ref_TakeList (v : Value) (l : List UInt8) (most : Int) (w : World) (hv : InY w v l) (hl : l.length ≤ 1000000) :
    Calls Try.prog 23 #[v, .int .i64 most] w (LRes (takeL l most) w) := by
  have HC := Lib.hid (ref_length v l most w hv hl)
  obtain ⟨A, c, rfl, hc, hcm, hb⟩ := hv
  have HB := Lib.hid hb
  have HCC := Lib.hid hc
  have HCM := Lib.hid hcm
  have HR := Lib.hid (takeL_def l most)
  have HOK := fun h => Lib.hid (len_facts (l := l) (most := most) h)
  obtain ⟨N, hN⟩ : ∃ N, N = l.length := ⟨_, rfl⟩
  have HN := Lib.hid hN
  rw [← hN] at hl HC ⊢
  obtain ⟨t, ht⟩ : ∃ t, lenR l most = t := ⟨_, rfl⟩
  rw [ht] at HC HR HOK
  obtain ⟨x, k, e⟩ := t
  simp only at HR HOK
  clear ht hb hc hcm hN
  go_enter Try.func23, Try.ntmps23
  go_wp2_with fail
  refine HC.out.mono ?_
  rintro e1 w1 ⟨rfl, rfl⟩
  by_cases he : e = 0
  · subst he
    obtain ⟨hx, hk, _, hi⟩ := (HOK rfl).out
    have hD2 := hi.2
    rw [← HN.out] at hk
    obtain ⟨D, rfl⟩ := Int.eq_ofNat_of_zero_le hx
    rw [if_pos rfl, Int.toNat_natCast] at HR
    clear hx HOK hi
    go_wp2_with fail
    go_loopw [8, 10, 11] (Ll l most D w) (fun k _ _ _ => N - (intOf k).toNat)
    case atStart => exact ⟨0, k, [], rfl, rfl, Nat.zero_le _, by rw [← HN.out]; exact hk, Nat.zero_le _, HR.out, OwnI.nil _ _, Below.refl _ _⟩
    case round =>
      clear hk HR
      obtain ⟨i, k, acc, rfl, rfl, hiD, hk, hacc, hr, ho, hbel⟩ := hrel
      have HR := Lib.hid hr
      have HO := Lib.hid ho
      have HBL := Lib.hid hbel
      have HBR : Hid (w.heap.size ≤ wr.heap.size) := hbel.size
      rw [← HN.out] at hk
      clear hr ho hbel
      rcases Nat.lt_or_ge i D with hlt | hge
      · obtain ⟨A', c', m, hm, hmc, hcc, hsl, hbt⟩ := slice_from (HB.out.on HBL.out) HCC.out k (by rw [← HN.out]; exact hk)
        have HI := Lib.hid (show InY wr (.slice A' m c') (l.drop k) from ⟨A', c', by rw [hm], by rw [hm]; exact hmc, Nat.le_trans hcc HCM.out, hbt⟩)
        have HT := Lib.hid (ref_TakeInt _ _ wr HI.out (by rw [List.length_drop, ← HN.out]; omega))
        have HOKI := fun h => Lib.hid (take_ok (b := l.drop k) h)
        have HGO := fun h => Lib.hid (items_go l k acc (n := D - i) (by omega) h)
        have HNO := fun h => Lib.hid (items_no l k acc (n := D - i) (by omega) h)
        rw [← HN.out] at hsl
        obtain ⟨t, ht⟩ : ∃ t, takeI (l.drop k) = t := ⟨_, rfl⟩
        rw [ht] at HT HGO HNO HOKI
        obtain ⟨x, k1, e⟩ := t
        simp only at HGO HNO HOKI
        clear ht hbt hm hmc hcc
        go_wp2_with fail
        refine HT.out.mono ?_
        rintro e1 w1 ⟨rfl, rfl⟩
        by_cases he : e = 0
        · subst he
          obtain ⟨_, k1p, k1l, _, hxi⟩ := (HOKI rfl).out
          rw [List.length_drop, ← HN.out] at k1l
          have HNX := HGO rfl
          clear HGO HNO HOKI hsl
          go_wp2_with (at_builtin; refine append_int rfl _ _ rfl w.heap.size u10 acc rfl (HO.out.alloc _) wr.heap.size 1 1 x rfl (int_one _ _ _ rfl) (by omega) (by simp; have := HBR.out; omega) ?_; intro v2 w2 hown2 hb2; refine Hid.out ?_)
          refine Lib.hid ?_
          have HO2 := Lib.hid hown2
          have HB2 := Lib.hid hb2
          clear hown2 hb2
          go_wp2_with fail
          go_roundw
          case rel => exact ⟨i + 1, k + k1, acc ++ [x], by go_num, by go_num, by omega, by rw [← HN.out]; omega, by simp; omega, by rw [HR.out, HNX.out]; congr 1, HO2.out, HBL.out.trans (((below_alloc _ _).mono HBR.out).trans HB2.out)⟩
          case measure => simp [intOf]; omega
        · have he0 : (e == 0) = false := by simpa using he
          have HF : Hid (takeL l most = ⟨[], 0, e⟩) := show _ = _ by rw [HR.out, (HNO he).out]
          clear he HGO HNO HOKI hsl
          go_wp2_with fail
          go_ret3
          exact ⟨.slice none 0 0, by rw [HF.out] <;> rfl, by rw [HF.out]; exact OwnI.nil _ _, HBL.out⟩
      · obtain rfl : i = D := by omega
        have HF : Hid (takeL l most = ⟨acc, k, 0⟩) := show _ = _ by rw [HR.out, Nat.sub_self]; rfl
        go_wp2_with fail
        go_ret3
        exact ⟨u10, by rw [HF.out] <;> rfl, by rw [HF.out]; exact HO.out, HBL.out⟩
  · have he0 : (e == 0) = false := by simpa using he
    have HF : Hid (takeL l most = ⟨[], 0, e⟩) := show _ = _ by rw [HR.out, if_neg he]
    clear he HOK
    go_wp2_with fail
    go_ret3
    exact ⟨.slice none 0 0, by rw [HF.out] <;> rfl, by rw [HF.out]; exact OwnI.nil _ _, Below.refl _ _⟩
#print axioms wire_TakeList
#print axioms ref_TakeList
end Go.Proofs.Ythcbkjdjkmnbiaa.Wire
