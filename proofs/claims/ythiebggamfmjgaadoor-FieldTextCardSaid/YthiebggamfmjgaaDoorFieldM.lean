/- Contract of Number of the reference. -/
import Derived.Test.YthiebggamfmjgaaDoorFieldL
namespace Go.Proofs.YthiebggamfmjgaaDoor.Field
open Go.ChangeShapes Go.WideShapes Go.RowKit
set_option linter.unusedVariables false
set_option maxRecDepth 100000

theorem dgS_minus {s : ByteArray} (h : 0 < s.size) (h0 : s[0] = 45) : dgS s = s.extract 1 s.size ∧ (dgS s).size < s.size ∧ (ls s).head? = some 45 := by
  have e : ls s = 45 :: (ls s).drop 1 := by have := drop_at (str_get? s h); rw [List.drop_zero, h0] at this; exact this
  have e2 : dgS s = s.extract 1 s.size := by
    unfold dgS
    rw [e]
    show bs (if (45 : UInt8) = 45 then (ls s).drop 1 else 45 :: (ls s).drop 1) = _
    rw [if_pos rfl, ext_bs]
    congr 1
    rw [List.take_of_length_le (by rw [List.length_drop, str_len]; omega)]; rfl
  refine ⟨e2, ?_, by rw [e]; rfl⟩
  rw [e2, ByteArray.size_extract]; omega
theorem dgS_plain {s : ByteArray} (h : 0 < s.size) (h0 : s[0] ≠ 45) : dgS s = s ∧ (ls s).head? ≠ some 45 := by
  have e : ls s = s[0] :: (ls s).drop 1 := by have := drop_at (str_get? s h); rw [List.drop_zero] at this; exact this
  refine ⟨?_, ?_⟩
  · have : dg (ls s) = ls s := by
      rw [e]; show (if s[0] = 45 then _ else _) = _; rw [if_neg h0]
    unfold dgS; rw [this]; exact bs_of s
  · rw [ls_head h]; exact fun e => h0 (Option.some.inj e)
theorem dgS_nil {s : ByteArray} (h : s.size = 0) : dgS s = s ∧ (ls s).head? ≠ some 45 := by
  have e : ls s = [] := List.isEmpty_iff.mp (emp_iff.mpr h)
  refine ⟨?_, by rw [e]; simp⟩
  unfold dgS; rw [e]; show bs [] = s; rw [← e]; exact bs_of s
theorem val_minus {s : ByteArray} (h : (ls s).head? = some 45) : valL (ls s) = -((dval (ls (dgS s)) : Nat) : Int) := by unfold valL; rw [if_pos h, dgS_ls]
theorem val_plain {s : ByteArray} (h : (ls s).head? ≠ some 45) : valL (ls s) = ((dval (ls (dgS s)) : Nat) : Int) := by unfold valL; rw [if_neg h, dgS_ls]
theorem dval_next {d : ByteArray} {k : Nat} {b : UInt8} (h : d.data.toList[k]? = some b) : dval ((ls d).take (k + 1)) = dval ((ls d).take k) * 10 + (b.toNat - 48) := by
  rw [show (ls d).take (k + 1) = (ls d).take k ++ [b] from take_snoc_of h, dval_snoc]

set_option maxHeartbeats 3200000 in
theorem ref_Number (s : ByteArray) (w : World) (hm : s.size ≤ 9223372036854775807) :
    Calls Tryd.prog 23 #[.string s] w fun e w' => e = .returned (.tuple #[.int .i64 (numV (ls s)), .int .i64 (numE (ls s))]) ∧ w = w' := by
  obtain ⟨b, hb⟩ : ∃ b, begB (ls s) = b := ⟨_, rfl⟩
  have HB := Lib.hid hb
  obtain ⟨g, hg⟩ : ∃ g : Bool, g = decide ((ls s).head? = some 45) := ⟨_, rfl⟩
  have HGG := Lib.hid hg
  have hds := dgS_size s
  obtain ⟨d, hd⟩ : ∃ d, d = dgS s := ⟨_, rfl⟩
  rw [← hd] at hds
  have HD := Lib.hid hd
  clear hb hg hd
  go_enter Tryd.func23, Tryd.ntmps23
  go_upto_region 2 with fail
  go_cut [14] (fun x wc => x = .bool g ∧ w = wc)
  case first =>
    rcases Nat.eq_zero_or_pos s.size with h0 | h0
    · have hq : s.toList.isEmpty = true := by rw [emp_size, decide_eq_true h0]
      have e : Hid (false = g) := by have := HGG.out; rw [decide_eq_false (dgS_nil h0).2] at this; exact this.symm
      clear h0
      go_wp2_with fail
      go_meet
      case rel => exact ⟨congrArg Value.bool e.out, rfl⟩
    · have hq : s.toList.isEmpty = false := by rw [emp_size, decide_eq_false (by omega)]
      have hb45 := byt_beq (b := s[0]) 45 (n := 45) rfl
      have e : Hid ((s[0] == 45) = g) := by
        show _ = _
        have h1 := HGG.out
        rw [ls_head h0] at h1
        rw [h1, Bool.eq_iff_iff]; simp
      rw [e.out] at hb45
      go_wp2_with fail
      go_meet
      case rel => exact ⟨by first | rfl | rw [hb45], rfl⟩
  case rest =>
    obtain ⟨rfl, rfl⟩ := hcut
    go_upto_if 14 with fail
    go_cut [4] (fun x wc => x = .string d ∧ w = wc)
    case first =>
      cases g with
      | true =>
        have h1 : 0 < s.size := by
          rcases Nat.eq_zero_or_pos s.size with h0 | h0
          · exact absurd (of_decide_eq_true HGG.out.symm) (dgS_nil h0).2
          · exact h0
        have h45 : s[0] = 45 := by have := of_decide_eq_true HGG.out.symm; rw [ls_head h1] at this; exact Option.some.inj this
        have P1 : ∀ W : World, (Instr.slice 9 (.string s) (some (.int .i64 1)) none none).run Tryd.prog W = .ok (.string d) W := fun W => by
          rw [run_slice_string_l W 9 s Tryd.underlying9 .i64 1 (by omega) (by omega), HD.out, (dgS_minus h1 h45).1]; rfl
        clear h45
        go_wp2_with fail
        go_meet
        case rel => exact ⟨rfl, rfl⟩
      | false =>
        have hds : d = s := by
          rw [HD.out]
          rcases Nat.eq_zero_or_pos s.size with h0 | h0
          · exact (dgS_nil h0).1
          · refine (dgS_plain h0 fun e => ?_).1
            have := of_decide_eq_false HGG.out.symm
            rw [ls_head h0, e] at this; exact this rfl
        have E := Lib.hid hds
        clear hds
        go_wp2_with fail
        go_meet
        case rel => exact ⟨by rw [E.out], rfl⟩
    case rest =>
      obtain ⟨rfl, rfl⟩ := hcut
      go_upto_region 4 with fail
      go_cut [27] (fun x wc => x = .bool b ∧ w = wc)
      case first =>
        rcases Nat.eq_zero_or_pos d.size with h0 | h0
        · have hq : d.toList.isEmpty = true := by rw [emp_size, decide_eq_true h0]
          have e : Hid (true = b) := (beg_empty (s := s) (by rw [← HD.out]; exact h0)).symm.trans HB.out
          clear h0
          go_wp2_with fail
          go_meet
          case rel => exact ⟨congrArg Value.bool e.out, rfl⟩
        · have hq : d.toList.isEmpty = false := by rw [emp_size, decide_eq_false (by omega)]
          have hb48 := byt_beq (b := d[0]) 48 (n := 48) rfl
          cases h48 : d[0] == 48 with
          | false =>
            rw [h48] at hb48
            have e : Hid (false = b) := by
              have h := HD.out
              subst h
              exact (beg_other h0 h48).symm.trans HB.out
            clear h48
            go_wp2_with fail
            go_meet
            case rel => exact ⟨congrArg Value.bool e.out, rfl⟩
          | true =>
            rw [h48] at hb48
            obtain ⟨z, hz⟩ : ∃ z, (s.toList == [48]) = z := ⟨_, rfl⟩
            have e : Hid ((!z) = b) := by
              have h := HD.out
              subst h
              rw [← hz]
              exact (beg_zero h0 h48).symm.trans HB.out
            clear h48
            cases z <;>
            · go_wp2_with fail
              go_meet
              case rel => exact ⟨congrArg Value.bool e.out, rfl⟩
      case rest =>
        obtain ⟨rfl, rfl⟩ := hcut
        cases b with
        | true =>
          have HE := Lib.hid (numE_form (beg_dec HB.out))
          go_wp2_with fail
          go_ret2
          exact ⟨ret_ii HE.out.2.symm HE.out.1.symm, rfl⟩
        | false =>
          go_wp2_with fail
          go_loop [5, 6] (fun nv i => ∃ (k : Nat) (n : Int), k ≤ d.size ∧ nv = .int .i64 n ∧ i = .int .i64 k ∧ digT d k ∧ n = min ((dval ((ls d).take k) : Nat) : Int) 2000000000000) (fun _ i => d.size - (intOf i).toNat)
          case atStart => exact ⟨0, 0, Nat.zero_le _, rfl, rfl, rfl, by simp [dval, dfold]; omega⟩
          case round =>
            obtain ⟨k, n, hk, rfl, rfl, ha, hn⟩ := hrel
            have HA := Lib.hid ha
            have HN := Lib.hid hn
            have n0 : 0 ≤ n := by omega
            have n1 : n ≤ 2000000000000 := by omega
            clear ha hn
            rcases Nat.lt_or_ge k d.size with hlt | hge
            · have HG := Lib.hid (str_get? d hlt)
              rcases Nat.lt_or_ge d[k].toNat 48 with h1 | h1
              · have hi : ((d[k].toNat : Nat) : Int) < 48 := by omega
                have HE : Hid (numE (ls s) = 3 ∧ numV (ls s) = 0) := numE_form (digT_bad (k := k) (by rw [← HD.out]; exact HG.out) (isD_no (Or.inl h1)))
                go_wp2_with fail
                go_ret2
                exact ⟨ret_ii HE.out.2.symm HE.out.1.symm, rfl⟩
              · have hi : decide (((d[k].toNat : Nat) : Int) < 48) = false := decide_eq_false (by omega)
                rcases Nat.lt_or_ge 57 d[k].toNat with h2 | h2
                · have hi2 : (57 : Int) < ((d[k].toNat : Nat) : Int) := by omega
                  have HE : Hid (numE (ls s) = 3 ∧ numV (ls s) = 0) := numE_form (digT_bad (k := k) (by rw [← HD.out]; exact HG.out) (isD_no (Or.inr h2)))
                  go_wp2_with fail
                  go_ret2
                  exact ⟨ret_ii HE.out.2.symm HE.out.1.symm, rfl⟩
                · have hi2 : decide ((57 : Int) < ((d[k].toNat : Nat) : Int)) = false := decide_eq_false (by omega)
                  have HT := Lib.hid (digT_next HA.out HG.out (isD_yes h1 h2))
                  obtain ⟨c, hc⟩ : ∃ c : Int, ((d[k].toNat : Nat) : Int) - 48 = c := ⟨_, rfl⟩
                  have c0 : 0 ≤ c := by omega
                  have c9 : c ≤ 9 := by omega
                  obtain ⟨n', hn'⟩ : ∃ n' : Int, min (10 * n + c) 2000000000000 = n' := ⟨_, rfl⟩
                  have HN2 : Hid (n' = min ((dval ((ls d).take (k + 1)) : Nat) : Int) 2000000000000) := by
                    show _ = _
                    have h3 := HN.out
                    rw [dval_next HG.out]
                    omega
                  go_wp2_with fail
                  go_round
                  case rel => exact ⟨k + 1, n', by omega, rfl, by go_num, HT.out, HN2.out⟩
                  case measure => simp [intOf]; omega
            · obtain rfl : k = d.size := by omega
              have hdv : n = min ((dval (ls d) : Nat) : Int) 2000000000000 := by have := HN.out; rwa [ls_full] at this
              have HDEC : Hid (decB (ls s) = true) := digT_end (by rw [← HD.out]; exact HA.out) HB.out
              have HVV : Hid (valL (ls s) = if g then -((dval (ls d) : Nat) : Int) else ((dval (ls d) : Nat) : Int)) := by
                show _ = _
                rw [HGG.out, HD.out]
                by_cases hh : (ls s).head? = some 45
                · rw [val_minus hh, decide_eq_true hh]; rfl
                · rw [val_plain hh, decide_eq_false hh]; rfl
              by_cases hbig : 1000000000000 < n
              · have HE := Lib.hid (numE_range HDEC.out (by rw [HVV.out]; cases g <;> simp <;> omega))
                clear hdv
                go_wp2_with fail
                go_ret2
                exact ⟨ret_ii HE.out.2.symm HE.out.1.symm, rfl⟩
              · have i2 : decide ((1000000000000 : Int) < n) = false := decide_eq_false hbig
                have hnv : n = ((dval (ls d) : Nat) : Int) := by omega
                cases g with
                | true =>
                  have h1 : 0 < s.size := by
                    rcases Nat.eq_zero_or_pos s.size with h0 | h0
                    · exact absurd (of_decide_eq_true HGG.out.symm) (dgS_nil h0).2
                    · exact h0
                  have h45 : s[0] = 45 := by have := of_decide_eq_true HGG.out.symm; rw [ls_head h1] at this; exact Option.some.inj this
                  have hq := beq_no (a := d) (b := s) (fun e => by have := (dgS_minus h1 h45).2.1; rw [← HD.out, e] at this; omega)
                  have HE := Lib.hid (numE_ok HDEC.out (by rw [HVV.out]; simp; omega))
                  have HV2 : Hid (-n = numV (ls s)) := by show _ = _; rw [HE.out.2, HVV.out, hnv]; rfl
                  clear hdv hnv h45 h1 hbig
                  go_wp2_with fail
                  go_ret2
                  exact ⟨ret_ii HV2.out HE.out.1.symm, rfl⟩
                | false =>
                  have hds2 : d = s := by
                    rw [HD.out]
                    rcases Nat.eq_zero_or_pos s.size with h0 | h0
                    · exact (dgS_nil h0).1
                    · refine (dgS_plain h0 fun e => ?_).1
                      have := of_decide_eq_false HGG.out.symm
                      rw [ls_head h0, e] at this; exact this rfl
                  have hq := beq_yes hds2
                  have HE := Lib.hid (numE_ok HDEC.out (by rw [HVV.out]; simp; omega))
                  have HV2 : Hid (n = numV (ls s)) := by show _ = _; rw [HE.out.2, HVV.out, hnv]; rfl
                  clear hdv hnv hds2 hbig
                  go_wp2_with fail
                  go_ret2
                  exact ⟨ret_ii HV2.out HE.out.1.symm, rfl⟩
#print axioms ref_Number
end Go.Proofs.YthiebggamfmjgaaDoor.Field
