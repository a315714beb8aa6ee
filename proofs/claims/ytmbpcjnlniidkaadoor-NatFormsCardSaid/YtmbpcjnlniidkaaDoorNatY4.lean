/- The contract of Parse of the reference. -/
import Derived.Test.YtmbpcjnlniidkaaDoorNatY3
namespace Go.Proofs.YtmbpcjnlniidkaaDoor
open Go.ChangeShapes Go.WideShapes Go.RowKit
set_option linter.unusedVariables false

theorem fit_ok' {n : Nat} (h : n < 1000000000 ^ 48) : fitN n = n ∧ fitE n = 0 := ⟨if_pos h, if_pos h⟩
theorem dval_append (A C : List UInt8) : dval (A ++ C) = dval A * 10 ^ C.length + dval C := by
  refine rev_ind (P := fun C => dval (A ++ C) = dval A * 10 ^ C.length + dval C) (by simp [dval]) ?_ C
  intro l a ih
  rw [← List.append_assoc, dval_snoc, ih, dval_snoc, List.length_append, List.length_singleton, Nat.pow_succ, Nat.add_mul, Nat.mul_assoc]; omega
theorem decOk_head {L : List UInt8} (h1 : 1 < L.length) (h : L.headD 0 = 48) : decOk L = false := by
  have e1 : decide (L = [48]) = false := decide_eq_false (by intro h2; rw [h2] at h1; simp at h1)
  have e2 : (L.headD 0 != 48) = false := by rw [h]; rfl
  rw [decOk, e1, e2]; simp
theorem decOk_good {L : List UInt8} (h0 : L ≠ []) (ha : L.all isD = true) (h : L.length ≤ 1 ∨ L.headD 0 ≠ 48) : decOk L = true := by
  have he : L.isEmpty = false := by cases L with
    | nil => exact absurd rfl h0
    | cons a l => rfl
  rw [decOk, ha, he]
  by_cases h48 : L.headD 0 = 48
  · have h1 : L.length ≤ 1 := h.resolve_right (fun h => h h48)
    have : L = [48] := by
      match L, h0 with
      | [a], _ => simp at h48; rw [h48]
      | a :: b :: l, _ => simp at h1
    rw [decide_eq_true this]; rfl
  · have : (L.headD 0 != 48) = true := by simpa using h48
    rw [this]; simp
/-- One chunk of nine digits. -/
theorem chunk_step {L : List UInt8} {t : Nat} {ds : List Int} (h9 : 9 * t < L.length) (hl : ds.length = t) (hv : (dval L : Int) = dval (L.take (L.length - 9 * t)) * 1000000000 ^ t + nval ds) :
    (dval L : Int) = dval (L.take (L.length - 9 * (t + 1))) * 1000000000 ^ (t + 1) + nval (ds ++ [((dval ((L.drop (L.length - 9 * t - 9)).take (L.length - 9 * t - (L.length - 9 * t - 9))) : Nat) : Int)]) := by
  obtain ⟨e, he⟩ : ∃ e, e = L.length - 9 * t := ⟨_, rfl⟩
  have e1 : L.length - 9 * (t + 1) = e - 9 := by omega
  rw [← he] at hv ⊢
  rw [e1, nval_snoc, hl, hv]
  have hs : L.take e = L.take (e - 9) ++ (L.drop (e - 9)).take (e - (e - 9)) := by
    have h1 := (List.take_append_drop (e - 9) (L.take e)).symm
    rw [List.take_take, Nat.min_eq_left (by omega), List.drop_take] at h1
    exact h1
  have hd := dval_append (L.take (e - 9)) ((L.drop (e - 9)).take (e - (e - 9)))
  rw [← hs] at hd
  have hcl : ((L.drop (e - 9)).take (e - (e - 9))).length = e - (e - 9) := by rw [List.length_take, List.length_drop]; omega
  rw [hcl] at hd
  rw [hd]
  obtain ⟨C, hC⟩ : ∃ C, C = dval ((L.drop (e - 9)).take (e - (e - 9))) := ⟨_, rfl⟩
  rw [← hC]
  rcases Nat.lt_or_ge e 9 with h | h
  · have e0 : e - 9 = 0 := by omega
    rw [e0, List.take_zero]
    have : dval [] = 0 := rfl
    rw [this]
    simp [Int.mul_comm]; omega
  · have e9 : e - (e - 9) = 9 := by omega
    rw [e9, Int.natCast_add, Int.natCast_mul, Int.pow_succ, Int.add_mul, Int.mul_assoc]
    have : ((10 ^ 9 : Nat) : Int) = 1000000000 := by decide
    rw [this, Int.mul_comm (1000000000 ^ t) 1000000000, Int.mul_comm (C : Int)]; omega
theorem chunk_lt {L : List UInt8} (ha : L.all isD = true) (s k : Nat) (hk : k ≤ 9) : dval ((L.drop s).take k) < 1000000000 := by
  have h : ((L.drop s).take k).all isD = true := by
    rw [List.all_eq_true] at ha ⊢
    exact fun x hx => ha x (List.mem_of_mem_drop (List.mem_of_mem_take hx))
  have h1 := dval_lt _ h
  have h2 : ((L.drop s).take k).length ≤ 9 := by rw [List.length_take]; omega
  have h3 : 10 ^ ((L.drop s).take k).length ≤ 10 ^ 9 := Nat.pow_le_pow_right (by decide) h2
  exact Nat.lt_of_lt_of_le h1 h3
theorem inner_digit {L : List UInt8} {s i : Nat} {b : UInt8} (hs : s ≤ i) (hb : L[i]? = some b) : dval ((L.drop s).take (i + 1 - s)) = dval ((L.drop s).take (i - s)) * 10 + (b.toNat - 48) := by
  have e : i + 1 - s = (i - s) + 1 := by omega
  have h : (L.drop s)[i - s]? = some b := by rw [List.getElem?_drop, show s + (i - s) = i by omega]; exact hb
  rw [e, List.take_add_one, h]
  exact dval_snoc _ _

set_option maxHeartbeats 6400000 in
theorem ref_Parse (s : ByteArray) (w : World) (hm : s.size ≤ 9223372036854775000) :
    Calls Tryd.prog 21 #[.string s] w (Res w (parN s.data.toList) (parE s.data.toList)) := by
  have hlen := str_len s
  have HL := Lib.hid hlen
  have et : s.toList = s.data.toList := ByteArray.toList_eq s
  have err : decOk s.data.toList = false → parN s.data.toList = 0 ∧ parE s.data.toList = 3 := fun h => ⟨by rw [parN, h]; rfl, by rw [parE, h]; rfl⟩
  have ERR := Lib.hid err
  rcases Nat.eq_zero_or_pos s.size with h0 | hp
  · have hn : s.data.toList = [] := List.eq_nil_of_length_eq_zero (by omega)
    have hE := ERR.out (by rw [hn]; rfl)
    have hq : s.toList.isEmpty = true := by rw [et, hn]; rfl
    have hq2 : (s.toList == []) = true := by rw [et, hn]; rfl
    have HE := Lib.hid hE
    clear hlen et err hn hE
    go_enter Tryd.func21, Tryd.ntmps21
    go_wp2_with fail
    go_ret2
    exact Res.none HE.out.1 HE.out.2 rfl (Below.refl _ _)
  · have hg := str_get? s hp
    have hh : s.data.toList.headD 0 = s[0] := by rw [List.headD_eq_head?_getD, List.head?_eq_getElem?, hg]; rfl
    have hne : s.data.toList ≠ [] := by intro h; rw [h] at hg; simp at hg
    have hq : s.toList.isEmpty = false := by
      rw [et]
      cases hc : s.data.toList with
      | nil => exact absurd hc hne
      | cons a l => rfl
    have hq2 : (s.toList == []) = false := by rw [et]; simpa using hne
    have HH := Lib.hid hh
    have HNE := Lib.hid hne
    by_cases hbad : 1 < s.size ∧ s[0] = 48
    · have hE := ERR.out (decOk_head (by omega) (by rw [hh]; exact hbad.2))
      have HE := Lib.hid hE
      have h1 : (1 : Int) < (s.size : Int) := by omega
      have h2 : (((s[0].toNat : Nat) : Int) == 48) = true := by rw [hbad.2]; rfl
      have h3 : ((s[0].toNat : Nat) : Int) = 48 := by rw [hbad.2]; rfl
      clear hlen et err hg hh hne hE hbad
      go_enter Tryd.func21, Tryd.ntmps21
      go_wp2_with fail
      go_ret2
      exact Res.none HE.out.1 HE.out.2 rfl (Below.refl _ _)
    · have hcond : (decide ((1 : Int) < (s.size : Int)) = false) ∨ ((1 : Int) < (s.size : Int) ∧ (((s[0].toNat : Nat) : Int) == 48) = false) := by
        by_cases h1 : 1 < s.size
        · right
          refine ⟨by omega, ?_⟩
          apply beq_false_of_ne
          intro h; apply hbad
          refine ⟨h1, UInt8.toNat_inj.mp ?_⟩
          show s[0].toNat = 48; omega
        · left; exact decide_eq_false (by omega)
      have hgood : s.data.toList.length ≤ 1 ∨ s.data.toList.headD 0 ≠ 48 := by
        by_cases h1 : 1 < s.size
        · right; rw [hh]; exact fun h => hbad ⟨h1, h⟩
        · left; omega
      have HG := Lib.hid hgood
      clear hlen et err hg hh hne hbad hgood
      rcases hcond with hc | ⟨hc, hc2⟩
      all_goals
        go_enter Tryd.func21, Tryd.ntmps21
        go_wp2_with fail
        go_loop [4] (fun i => ∃ k : Nat, k ≤ s.size ∧ i = .int .i64 k ∧ (s.data.toList.take k).all isD = true) (fun i => s.size - (intOf i).toNat)
        case atStart => exact ⟨0, Nat.zero_le _, rfl, rfl⟩
        case round =>
          obtain ⟨k, hk, rfl, ha⟩ := hrel
          have HA := Lib.hid ha
          clear ha
          rcases Nat.lt_or_ge k s.size with hlt | hge
          · have HG2 := Lib.hid (str_get? s hlt)
            rcases Nat.lt_or_ge s[k].toNat 48 with h1 | h1
            · have hi : ((s[k].toNat : Nat) : Int) < 48 := by omega
              have HB := Lib.hid (ERR.out (decOk_bad HG2.out (isD_no (Or.inl h1))))
              go_wp2_with fail
              go_ret2
              exact Res.none HB.out.1 HB.out.2 rfl (Below.refl _ _)
            · have hi : decide (((s[k].toNat : Nat) : Int) < 48) = false := decide_eq_false (by omega)
              rcases Nat.lt_or_ge 57 s[k].toNat with h2 | h2
              · have hi2 : (57 : Int) < ((s[k].toNat : Nat) : Int) := by omega
                have HB := Lib.hid (ERR.out (decOk_bad HG2.out (isD_no (Or.inr h2))))
                go_wp2_with fail
                go_ret2
                exact Res.none HB.out.1 HB.out.2 rfl (Below.refl _ _)
              · have hi2 : decide ((57 : Int) < ((s[k].toNat : Nat) : Int)) = false := decide_eq_false (by omega)
                have HB := Lib.hid (all_snoc HA.out HG2.out (isD_yes h1 h2))
                go_wp2_with fail
                go_round
                case rel => exact ⟨k + 1, by omega, by go_num, HB.out⟩
                case measure => simp [intOf]; omega
          · obtain rfl : k = s.size := by omega
            have hall : s.data.toList.all isD = true := by have := HA.out; rwa [← HL.out, List.take_length] at this
            have hok := decOk_good HNE.out hall HG.out
            have HALL := Lib.hid hall
            have HOK := Lib.hid hok
            clear hall hok
            by_cases hbig : 432 < s.size
            · have hb2 : (432 : Int) < (s.size : Int) := by omega
              have HN := Lib.hid (show ¬ s.data.toList.length ≤ 432 by rw [HL.out]; omega)
              go_wp2_with fail
              go_ret2
              exact Res.none (by rw [parN, HOK.out, if_pos rfl, if_neg HN.out]) (by rw [parE, HOK.out, if_pos rfl, if_neg HN.out]) rfl (Below.refl _ _)
            · have hb2 : decide ((432 : Int) < (s.size : Int)) = false := decide_eq_false (by omega)
              have hs : s.size ≤ 432 := by omega
              have HN := Lib.hid (show s.data.toList.length ≤ 432 by rw [HL.out]; omega)
              obtain ⟨i0, hi0, hz0, hz1, hz2⟩ := info_parts info_int
              clear hbig hge hk
              go_wp2_with fail
              go_loopw [5, 6] (fun ov ev wr => ∃ (t : Nat) (ds : List Int), 9 * t ≤ s.size + 8 ∧ ev = .int .i64 ((s.size : Int) - 9 * (t : Int)) ∧ ds.length = t ∧ lok ds = true ∧ (dval s.data.toList : Int) = dval (s.data.toList.take (s.data.toList.length - 9 * t)) * 1000000000 ^ t + nval ds ∧
                wr.ownsRow w.heap.size 3 1 ov ds.length (ds.map (Value.int .i64)) ∧ Below w.heap.size w wr) (fun _ ev _ => (intOf ev).toNat)
              case atStart => exact ⟨0, [], by omega, by simp, rfl, rfl, by rw [Nat.mul_zero, Nat.sub_zero, List.take_length]; simp [nval], World.ownsRow_nil _ _ _ _, Below.refl _ _⟩
              case round =>
                obtain ⟨t, ds, ht9, rfl, hdl, hdk, hdv, hown, hbel⟩ := hrel
                have HDL := Lib.hid hdl
                have HDK := Lib.hid hdk
                have HDV := Lib.hid hdv
                have HOW := Lib.hid hown
                have HBL := Lib.hid hbel
                clear hdl hdk hdv hown hbel
                rcases Nat.lt_or_ge (9 * t) s.size with hlt | hge
                · obtain ⟨e, he⟩ : ∃ e, e = s.size - 9 * t := ⟨_, rfl⟩
                  have ee : (s.size : Int) - 9 * (t : Int) = (e : Int) := by omega
                  obtain ⟨st, hst⟩ : ∃ st, st = e - 9 := ⟨_, rfl⟩
                  have emx : max (0 : Int) ((e : Int) - 9) = (st : Int) := by omega
                  have e0 : 0 < e := by omega
                  have e0' : (0 : Int) < (e : Int) := by omega
                  have est : st ≤ e := by omega
                  have ele : e ≤ s.size := by omega
                  have e432 : e ≤ 432 := by omega
                  have HEE := Lib.hid he
                  have HSE := Lib.hid hst
                  rw [ee]
                  clear he hst ee
                  go_wp2_with fail
                  go_loop [7, 8] (fun nv iv => ∃ i : Nat, st ≤ i ∧ i ≤ e ∧ iv = .int .i64 (i : Int) ∧ nv = .int .i64 ((dval ((s.data.toList.drop st).take (i - st)) : Nat) : Int)) (fun _ iv => e - (intOf iv).toNat)
                  case atStart => exact ⟨st, Nat.le_refl _, est, rfl, by rw [Nat.sub_self, List.take_zero]; rfl⟩
                  case round =>
                    obtain ⟨i, hi1, hi2, rfl, rfl⟩ := hrel
                    rcases Nat.lt_or_ge i e with hie | hie
                    · have his : i < s.size := by omega
                      have hgi := str_get? s his
                      have hdi := isD_iff (List.all_eq_true.mp HALL.out _ (List.mem_of_getElem? hgi))
                      have hin := inner_digit hi1 hgi
                      have hlt9 := chunk_lt HALL.out st (i - st) (by have := HSE.out; omega)
                      obtain ⟨N, hN⟩ : ∃ N, N = dval ((s.data.toList.drop st).take (i - st)) := ⟨_, rfl⟩
                      rw [← hN] at hin hlt9 ⊢
                      have d1 : (48 : Int) ≤ (s[i].toNat : Int) := by omega
                      have d2 : (s[i].toNat : Int) ≤ 57 := by omega
                      have w2' : IntKind.u8.wrap ((s[i].toNat : Int) - 48) = (s[i].toNat : Int) - 48 := by rw [IntKind.wrap_u8]; omega
                      have HIN := Lib.hid hin
                      have hie' : (i : Int) < (e : Int) := by omega
                      clear hgi hdi hin hN
                      go_wp2_with fail
                      go_round
                      case rel =>
                        refine ⟨i + 1, by omega, by omega, by go_num, ?_⟩
                        rw [HIN.out]
                        exact congrArg _ (by omega)
                      case measure => simp [intOf]; omega
                    · obtain rfl : i = e := by omega
                      have hck := chunk_step (L := s.data.toList) (t := t) (ds := ds) (by rw [HL.out]; exact hlt) HDL.out HDV.out
                      have hlt9 := chunk_lt HALL.out st (i - st) (by have := HSE.out; omega)
                      have e1 : s.data.toList.length - 9 * t = i := by rw [HL.out]; exact HEE.out.symm
                      rw [e1, ← HSE.out] at hck
                      obtain ⟨C, hC⟩ : ∃ C, C = dval ((s.data.toList.drop st).take (i - st)) := ⟨_, rfl⟩
                      rw [← hC] at hck hlt9 ⊢
                      have HCK := Lib.hid hck
                      have hdlen : ds.length ≤ 100 := by rw [HDL.out]; omega
                      clear hck e1 hC
                      go_wp2_with (first
                        | (at_builtin; refine wpList_append_own _ rfl _ _ 23 rfl w.heap.size 3 i0 (.int .i64 0) 1 8 Tryd.underlying23 hi0 hz0 hz1 hz2 rfl (by decide) _ _ _ rfl (HOW.out.alloc _) ⟨wr.heap.size, 0, none⟩ 1 1 [.int .i64 (C : Int)] rfl rfl (one_cell _ _ _) (by intro u hu; simp at hu; subst hu; rfl) (by unfold maxLen; omega) (by omega) (by have := HBL.out.size; simp; omega) ?_; intro v' w1 hown' hgrow _; refine Hid.out ?_)
                        | fail)
                      refine Lib.hid ?_
                      have HB1 := Lib.hid (show Below w.heap.size w w1 from (HBL.out.alloc HBL.out.size _).grown hgrow (by have := HBL.out.size; simp; omega) (own_block_ge HOW.out))
                      have HOW1 := Lib.hid (own_snoc hown')
                      clear hown' hgrow
                      go_wp2_with fail
                      go_roundw
                      case rel =>
                        refine ⟨t + 1, ds ++ [(C : Int)], by omega, ?_, by rw [List.length_append, HDL.out]; rfl, lok_snoc HDK.out (by omega) (by omega), HCK.out, HOW1.out, HB1.out⟩
                        have := HEE.out; go_num
                      case measure => simp [intOf]; omega
                · have hv := HDV.out
                  have e1 : s.data.toList.length - 9 * t = 0 := by rw [HL.out]; omega
                  have hz : dval [] = 0 := rfl
                  rw [e1, List.take_zero, hz] at hv
                  have hv' : nval ds = (dval s.data.toList : Int) := by rw [hv]; simp
                  have hlt432 : dval s.data.toList < 1000000000 ^ 48 := lt_pow9 (dval_lt _ HALL.out) (by rw [HL.out]; omega)
                  have hft := ref_fit ds _ wr (sl_of_owns HOW.out).toIn HDK.out (by rw [HDL.out]; omega)
                  rw [hv', Int.toNat_natCast, (fit_ok' hlt432).1, (fit_ok' hlt432).2] at hft
                  have HFT := Lib.hid hft
                  have hn0 : decide ((0 : Int) < (s.size : Int) - 9 * (t : Int)) = false := decide_eq_false (by omega)
                  clear hv e1 hz hv' hlt432 hft
                  go_wp2_with fail
                  refine HFT.out.mono ?_
                  rintro e w8 ⟨v8, rfl, hi8, hb8⟩
                  have HI8 := Lib.hid (hi8.more HBL.out.size (Nat.le_refl _))
                  have HB8 := Lib.hid (bstep HBL.out hb8)
                  clear hi8 hb8
                  go_wp2_with fail
                  go_ret2
                  exact ⟨v8, by rw [parE, HOK.out, if_pos rfl, if_pos HN.out]; rfl, by rw [parN, HOK.out, if_pos rfl, if_pos HN.out]; exact HI8.out, HB8.out⟩
#print axioms ref_Parse
end Go.Proofs.YtmbpcjnlniidkaaDoor
