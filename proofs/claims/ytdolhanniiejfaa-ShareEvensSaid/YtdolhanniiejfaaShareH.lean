/- check and Divide of the reference. -/
import Derived.Test.YtdolhanniiejfaaShareG
namespace Go.Proofs.Ytdolhanniiejfaa.Share
open Go.ChangeShapes Go.WideShapes Go.RowKit Go.Lib Go.Proofs.Ytdolhanniiejfaa.Mem
set_option linter.unusedVariables false
set_option maxRecDepth 100000

def chV (t : Int) (ws : List Int) : Int := if errS t ws = 0 then sumK ws ws.length else 0

set_option maxHeartbeats 1600000 in
theorem ref_check (t : Int) (ws : List Int) (A : Option Addr) (c : Nat) (w : World) (hS : Cl eI w A ws) (hl : ws.length ≤ 9223372036854775807) :
    Calls Try.prog 26 #[.int .i64 t, .slice A ws.length c] w fun e w' => e = .returned (.tuple #[.int .i64 (chV t ws), .int .i64 (errS t ws : Int)]) ∧ w = w' := by
  obtain ⟨N, hN⟩ : ∃ N, ws.length = N := ⟨_, rfl⟩
  have HN := Lib.hid hN
  have HS := Lib.hid hS
  rw [hN] at hl ⊢
  clear hS hN
  cases hi : inW t with
  | false =>
    have HD : Hid (chV t ws = 0 ∧ (errS t ws : Int) = 1) := by
      have := errS_t (ws := ws) hi
      refine ⟨by unfold chV; rw [this]; rfl, by rw [this]; rfl⟩
    have hmx : mx = 1125899906842624 := rfl
    rcases inW_no.mp hi with h1 | h1
    · clear hi hmx
      go_enter Try.func26, Try.ntmps26
      go_wp2_with fail
      go_ret2
      exact ⟨two_is HD.out.1.symm HD.out.2.symm, rfl⟩
    · have h2 : ¬ t < 0 := by omega
      have h3 : 1125899906842624 < t := by omega
      clear hi hmx
      go_enter Try.func26, Try.ntmps26
      go_wp2_with fail
      go_ret2
      exact ⟨two_is HD.out.1.symm HD.out.2.symm, rfl⟩
  | true =>
    have HI := Lib.hid hi
    obtain ⟨t0, t1⟩ := inW_iff.mp hi
    have hmx : mx = 1125899906842624 := rfl
    have g1 : ¬ t < 0 := by omega
    have g2 : ¬ 1125899906842624 < t := by omega
    clear hi t0 t1 hmx
    rcases Nat.eq_zero_or_pos N with rfl | hpos
    · have HD : Hid (chV t ws = 0 ∧ (errS t ws : Int) = 10) := by
        have := errS_0 HI.out HN.out
        refine ⟨by unfold chV; rw [this]; rfl, by rw [this]; rfl⟩
      go_enter Try.func26, Try.ntmps26
      go_wp2_with fail
      go_ret2
      exact ⟨two_is HD.out.1.symm HD.out.2.symm, rfl⟩
    · rcases Nat.lt_or_ge 512 N with hbig | hle
      · have HD : Hid (chV t ws = 0 ∧ (errS t ws : Int) = 8) := by
          have := errS_n HI.out (by rw [HN.out]; exact hbig)
          refine ⟨by unfold chV; rw [this]; rfl, by rw [this]; rfl⟩
        have b1 : ¬ N = 0 := by omega
        have b2 : (512 : Int) < (N : Int) := by omega
        have b3 : ((N : Int) == 0) = false := by simp; omega
        go_enter Try.func26, Try.ntmps26
        go_wp2_with fail
        go_ret2
        exact ⟨two_is HD.out.1.symm HD.out.2.symm, rfl⟩
      · have HP := Lib.hid (show 0 < N ∧ N ≤ 512 from ⟨hpos, hle⟩)
        have b1 : ¬ N = 0 := by omega
        have b2 : decide ((512 : Int) < (N : Int)) = false := decide_eq_false (by omega)
        have b3 : ((N : Int) == 0) = false := by simp; omega
        clear hpos hle
        go_enter Try.func26, Try.ntmps26
        go_wp2_with fail
        go_loopw [6] (fun x wr => ∃ k : Nat, k ≤ N ∧ x = .int .i64 (k : Int) ∧ (∀ (j : Nat) z, j < k → ws[j]? = some z → inW z = true) ∧ wr = w) (fun x _ => N - (RowKit.intOf x).toNat)
        case atStart => exact ⟨0, Nat.zero_le _, rfl, fun j z h => by omega, rfl⟩
        case round =>
          obtain ⟨k, hk, rfl, hall, rfl⟩ := hrel
          have HALL := Lib.hid hall
          clear hall
          rcases Nat.lt_or_ge k N with hlt | hge
          · obtain ⟨z, hz⟩ := get_lt (L := ws) (k := k) (by rw [HN.out]; exact hlt)
            obtain ⟨b, off, rfl, hb, hcell⟩ := HS.out k z hz
            have HZ := Lib.hid hz
            have i1 : (k : Int) < (N : Int) := by omega
            have i2 : (0 : Int) ≤ (k : Int) := by omega
            have hk1 : IntKind.i64.wrap ((k : Int) + 1) = ((k + 1 : Nat) : Int) := wrap_id (by have := HP.out; omega)
            clear hz
            cases hi : inW z with
            | true =>
              have HIT := Lib.hid hi
              obtain ⟨z0, z1⟩ := inW_iff.mp hi
              have hmx : mx = 1125899906842624 := rfl
              have f1 : ¬ z < 0 := by omega
              have f2 : ¬ 1125899906842624 < z := by omega
              clear hi z0 z1 hmx
              go_wp2_with fail
              go_roundw
              case rel => exact ⟨k + 1, by omega, rfl, fun j y h1 h2 => by
                rcases Nat.lt_or_ge j k with h3 | h3
                · exact HALL.out j y h3 h2
                · obtain rfl : j = k := by omega
                  rw [HZ.out] at h2; cases h2; exact HIT.out, trivial⟩
              case measure => simp [RowKit.intOf]; omega
            | false =>
              have HD : Hid (chV t ws = 0 ∧ (errS t ws : Int) = 1) := by
                have := errS_w HI.out (by rw [HN.out]; exact HP.out.1) (by rw [HN.out]; exact HP.out.2) HZ.out hi
                refine ⟨by unfold chV; rw [this]; rfl, by rw [this]; rfl⟩
              rcases inW_no.mp hi with f1 | f1
              · clear hi
                go_wp2_with fail
                go_ret2
                exact ⟨two_is HD.out.1.symm HD.out.2.symm, rfl⟩
              · have hmx : mx = 1125899906842624 := rfl
                have f2 : ¬ z < 0 := by omega
                have f3 : 1125899906842624 < z := by omega
                clear hi f1 hmx
                go_wp2_with fail
                go_ret2
                exact ⟨two_is HD.out.1.symm HD.out.2.symm, rfl⟩
          · obtain rfl : N = k := by omega
            have HA : Hid (∀ z ∈ ws, 0 ≤ z ∧ z ≤ mx) := fun z hz => by
              obtain ⟨j, hj⟩ := List.mem_iff_getElem?.mp hz
              exact inW_iff.mp (HALL.out j z (by rw [← HN.out]; exact lt_of_get hj) hj)
            clear hk hge
            go_wp2_with fail
            go_loopw [7, 8] (fun x y wr2 => ∃ (k : Nat) (s : Int), k ≤ N ∧ x = .int .i64 s ∧ y = .int .i64 (k : Int) ∧ s = sumK ws k ∧ 0 ≤ s ∧ s ≤ 1125899906842624 * (k : Int) ∧ wr2 = wr) (fun _ y _ => N - (RowKit.intOf y).toNat)
            case atStart => exact ⟨0, 0, Nat.zero_le _, rfl, rfl, rfl, by omega, by omega, rfl⟩
            case round =>
              obtain ⟨k, s, hk, rfl, rfl, hs, hs0, hs1, rfl⟩ := hrel
              have HSK := Lib.hid hs
              have hP := HP.out.2
              clear hs
              rcases Nat.lt_or_ge k N with hlt | hge
              · obtain ⟨z, hz⟩ := get_lt (L := ws) (k := k) (by rw [HN.out]; exact hlt)
                obtain ⟨b, off, rfl, hb, hcell⟩ := HS.out k z hz
                have HZ := Lib.hid hz
                obtain ⟨z0, z1⟩ := HA.out z (List.mem_of_getElem? hz)
                have i1 : (k : Int) < (N : Int) := by omega
                have i2 : (0 : Int) ≤ (k : Int) := by omega
                have hk1 : IntKind.i64.wrap ((k : Int) + 1) = ((k + 1 : Nat) : Int) := wrap_id (by omega)
                have hmx : mx = 1125899906842624 := rfl
                obtain ⟨s', hs'⟩ : ∃ s', s' = s + z := ⟨_, rfl⟩
                have hw : IntKind.i64.wrap (s + z) = s' := by rw [wrap_id (by omega)]; omega
                have HX := Lib.hid (show 0 ≤ s' ∧ s' ≤ 1125899906842624 * ((k + 1 : Nat) : Int) ∧ k + 1 ≤ N ∧ s' = s + z by omega)
                clear hz z0 z1 hs' hs0 hs1 hk hP hlt hmx
                go_wp2_with fail
                go_roundw
                case rel => exact ⟨k + 1, s', HX.out.2.2.1, rfl, rfl, by rw [sumK_succ HZ.out, ← HSK.out]; exact HX.out.2.2.2, HX.out.1, HX.out.2.1, trivial⟩
                case measure =>
                  have := HX.out
                  simp [RowKit.intOf]; omega
              · obtain rfl : N = k := by omega
                have HE := Lib.hid (errS_s HI.out (by rw [HN.out]; exact HP.out.1) (by rw [HN.out]; exact HP.out.2) HA.out)
                have HDV : Hid (chV t ws = if errS t ws = 0 then sumK ws ws.length else 0) := rfl
                have HSS : Hid (sumK ws ws.length = s) := (by rw [HN.out]; exact HSK.out.symm : sumK ws ws.length = s)
                rw [HSS.out] at HE HDV
                clear hk hge hP
                rcases Int.lt_or_le mx s with hS | hS
                · have HD : Hid (chV t ws = 0 ∧ (errS t ws : Int) = 2) := by
                    have := HE.out
                    rw [if_pos hS] at this
                    refine ⟨by rw [HDV.out, this]; rfl, by rw [this]; rfl⟩
                  have f1 : 1125899906842624 < s := hS
                  clear hS hs0 hs1
                  go_wp2_with fail
                  go_ret2
                  exact ⟨two_is HD.out.1.symm HD.out.2.symm, rfl⟩
                · have hmx : mx = 1125899906842624 := rfl
                  have f1 : ¬ 1125899906842624 < s := by omega
                  have hnS : ¬ mx < s := by omega
                  by_cases hs2 : s = 0
                  · subst hs2
                    by_cases ht : t = 0
                    · subst ht
                      have HD : Hid (chV 0 ws = 0 ∧ (errS 0 ws : Int) = 0) := by
                        have := HE.out
                        rw [if_neg hnS, if_neg (fun h => h.2 rfl)] at this
                        refine ⟨by rw [HDV.out, this]; rfl, by rw [this]; rfl⟩
                      have f2 : ((0 : Int) != 0) = false := rfl
                      clear hS hnS hs0 hs1 hmx
                      go_wp2_with fail
                      go_ret2
                      exact ⟨two_is HD.out.1.symm HD.out.2.symm, rfl⟩
                    · have HD : Hid (chV t ws = 0 ∧ (errS t ws : Int) = 16) := by
                        have := HE.out
                        rw [if_neg hnS, if_pos ⟨rfl, ht⟩] at this
                        refine ⟨by rw [HDV.out, this]; rfl, by rw [this]; rfl⟩
                      have f2 : (t != 0) = true := by simp [ht]
                      clear hS hnS hs0 hs1 hmx
                      go_wp2_with fail
                      go_ret2
                      exact ⟨two_is HD.out.1.symm HD.out.2.symm, rfl⟩
                  · have HD : Hid (chV t ws = s ∧ (errS t ws : Int) = 0) := by
                      have := HE.out
                      rw [if_neg hnS, if_neg (fun h => hs2 h.1)] at this
                      refine ⟨by rw [HDV.out, this]; rfl, by rw [this]; rfl⟩
                    have f2 : (s == 0) = false := by simp [hs2]
                    clear hS hnS hs0 hs1 hmx
                    go_wp2_with fail
                    go_ret2
                    exact ⟨two_is HD.out.1.symm HD.out.2.symm, rfl⟩

theorem i64_and1 (n : Int) : bits .and .i64 n 1 = n % 2 := by
  have h1 : (BitVec.ofInt 64 1).toNat = 2 ^ 1 - 1 := by decide
  have key : (BitVec.ofInt 64 n &&& BitVec.ofInt 64 1).toNat = (n % ((2 ^ 64 : Nat) : Int)).toNat % 2 ^ 1 := by
    rw [BitVec.toNat_and, BitVec.toNat_ofInt, h1, Nat.and_two_pow_sub_one_eq_mod]
  show IntKind.i64.wrap ((BitVec.ofInt 64 n &&& BitVec.ofInt 64 1).toNat : Nat) = n % 2
  rw [key, IntKind.wrap_i64]
  omega
set_option maxHeartbeats 3200000 in
theorem ref_divide {a b c : Nat} (hac : a ≤ c) (hc : 0 < c) (hc2 : c ≤ 1125899906842624) (hb : b ≤ 1125899906842624) (w : World) :
    Calls Try.prog 27 #[.int .i64 (a : Int), .int .i64 (b : Int), .int .i64 (c : Int)] w fun e w' => e = .returned (.tuple #[.int .i64 ((a * b / c : Nat) : Int), .int .i64 ((a * b % c : Nat) : Int)]) ∧ w = w' := by
  have HX := Lib.hid (show a ≤ c ∧ 0 < c ∧ c ≤ 1125899906842624 ∧ b ≤ 1125899906842624 from ⟨hac, hc, hc2, hb⟩)
  obtain ⟨Q, hQ⟩ : ∃ Q, Q = a * b / c := ⟨_, rfl⟩
  obtain ⟨R, hR⟩ : ∃ R, R = a * b % c := ⟨_, rfl⟩
  have HQR := Lib.hid (show Q = a * b / c ∧ R = a * b % c from ⟨hQ, hR⟩)
  rw [← hQ, ← hR]
  have hsg : IntKind.i64.signed = true := rfl
  clear hac hc hc2 hb hQ hR
  go_enter Try.func27, Try.ntmps27
  go_wp2_with fail
  go_loopw [8, 9, 10] (fun x y z wr => ∃ (j q r : Nat), x = .int .i64 (q : Int) ∧ y = .int .i64 (r : Int) ∧ z = .int .i64 ((j : Int) - 1) ∧ j ≤ 51 ∧ Dv a b c j q r ∧ wr = w) (fun _ _ z _ => (RowKit.intOf z + 1).toNat)
  case atStart => exact ⟨51, 0, 0, rfl, rfl, rfl, by omega, Dv.start (by have := HX.out; omega) HX.out.2.1, rfl⟩
  case round =>
    obtain ⟨j, q, r, rfl, rfl, rfl, hj, hdv, rfl⟩ := hrel
    have HDV := Lib.hid hdv
    have hX := HX.out
    have hq := hdv.q_le hX.1
    have hr := hdv.2
    clear hdv
    cases j with
    | zero =>
      have HE : Hid (q = Q ∧ r = R) := by
        have h1 := HDV.out.all
        have h2 := HQR.out
        exact ⟨h1.1.trans h2.1.symm, h1.2.trans h2.2.symm⟩
      obtain ⟨rfl, rfl⟩ := HE.out
      clear hX hq hr hj
      go_wp2_with fail
      go_ret2
      exact ⟨rfl, rfl⟩
    | succ k =>
      have e0 : ((k + 1 : Nat) : Int) - 1 = (k : Int) := by omega
      rw [e0]
      clear e0
      have HK := Lib.hid (show k ≤ 50 by omega)
      obtain ⟨Y, hY⟩ : ∃ Y, Y = b / 2 ^ k := ⟨_, rfl⟩
      obtain ⟨q2, hq2⟩ : ∃ x, x = 2 * q := ⟨_, rfl⟩
      obtain ⟨r2, hr2⟩ : ∃ x, x = 2 * r := ⟨_, rfl⟩
      have hw1 : IntKind.i64.wrap (2 * (q : Int)) = (q2 : Int) := by rw [wrap_id (by omega)]; omega
      have hw2 : IntKind.i64.wrap (2 * (r : Int)) = (r2 : Int) := by rw [wrap_id (by omega)]; omega
      have hsh : (b : Int) / 2 ^ k = (Y : Int) := by rw [hY]; simp
      have hk0 : (0 : Int) ≤ (k : Int) := by omega
      have hk64 : (k : Int) ≤ 64 := by omega
      have hand := i64_and1 (Y : Int)
      rcases Nat.mod_two_eq_zero_or_one Y with hp | hp
      · have hm : (Y : Int) % 2 = 0 := by omega
        rw [hm] at hand
        obtain ⟨r1, hr1⟩ : ∃ x, x = r2 := ⟨_, rfl⟩
        rw [← hr1] at hw2
        have HDW : Hid (Dw a b c k q2 r1) := by rw [hq2, hr1, hr2]; exact HDV.out.zero (by rw [← hY]; exact hp)
        have HR1 := Lib.hid (show r1 ≤ 4503599627370496 by omega)
        clear hp hm hr1
        clear hX hq hr hj hY hq2 hr2
        go_wp2_with fail
        go_loopw [8, 9] (fun x y wr2 => ∃ q' r' : Nat, x = .int .i64 (q' : Int) ∧ y = .int .i64 (r' : Int) ∧ Dw a b c k q' r' ∧ r' ≤ 4503599627370496 ∧ wr2 = wr) (fun _ y _ => (RowKit.intOf y).toNat)
        case atStart => exact ⟨q2, r1, rfl, rfl, HDW.out, HR1.out, rfl⟩
        case round =>
          obtain ⟨q', r', rfl, rfl, hdw, hr', rfl⟩ := hrel
          have HDW2 := Lib.hid hdw
          have hX := HX.out
          have hqb := hdw.q_le hX.1 hX.2.1
          clear hdw
          rcases Nat.lt_or_ge r' c with hlt | hge
          · have HD := Lib.hid (HDW2.out.done hlt)
            have f5 : ¬ c ≤ r' := by omega
            have hk9 : IntKind.i64.wrap ((k : Int) - 1) = (k : Int) - 1 := wrap_id (by have := HK.out; omega)
            clear hX hqb hr' hlt
            go_wp2_with fail
            go_roundw
            case rel => exact ⟨k, q', r', rfl, rfl, rfl, by have := HK.out; omega, HD.out, trivial⟩
            case measure => simp [RowKit.intOf]
          · obtain ⟨r3, hr3⟩ : ∃ x, x = r' - c := ⟨_, rfl⟩
            obtain ⟨q3, hq3⟩ : ∃ x, x = q' + 1 := ⟨_, rfl⟩
            have hw5 : IntKind.i64.wrap ((r' : Int) - (c : Int)) = (r3 : Int) := by rw [wrap_id (by omega)]; omega
            have hw6 : IntKind.i64.wrap ((q' : Int) + 1) = (q3 : Int) := by rw [wrap_id (by omega)]; omega
            have HD : Hid (Dw a b c k q3 r3) := by
              have h1 := HDW2.out
              rw [show r' = r3 + c by omega] at h1
              rw [hq3]
              exact h1.off
            have f5 : c ≤ r' := hge
            have HR3 := Lib.hid (show r3 ≤ 4503599627370496 ∧ r3 < r' by omega)
            clear hX hqb hr' hge hr3 hq3
            go_wp2_with fail
            go_roundw
            case rel => exact ⟨q3, r3, rfl, rfl, HD.out, HR3.out.1, trivial⟩
            case measure =>
              have := HR3.out
              simp [RowKit.intOf]; omega
      · have hm : (Y : Int) % 2 = 1 := by omega
        rw [hm] at hand
        obtain ⟨r1, hr1⟩ : ∃ x, x = r2 + a := ⟨_, rfl⟩
        have hw4 : IntKind.i64.wrap ((r2 : Int) + (a : Int)) = (r1 : Int) := by rw [wrap_id (by omega)]; omega
        have HDW : Hid (Dw a b c k q2 r1) := by rw [hq2, hr1, hr2]; exact HDV.out.one (by rw [← hY]; exact hp)
        have HR1 := Lib.hid (show r1 ≤ 4503599627370496 by omega)
        clear hp hm hr1
        clear hX hq hr hj hY hq2 hr2
        go_wp2_with fail
        go_loopw [8, 9] (fun x y wr2 => ∃ q' r' : Nat, x = .int .i64 (q' : Int) ∧ y = .int .i64 (r' : Int) ∧ Dw a b c k q' r' ∧ r' ≤ 4503599627370496 ∧ wr2 = wr) (fun _ y _ => (RowKit.intOf y).toNat)
        case atStart => exact ⟨q2, r1, rfl, rfl, HDW.out, HR1.out, rfl⟩
        case round =>
          obtain ⟨q', r', rfl, rfl, hdw, hr', rfl⟩ := hrel
          have HDW2 := Lib.hid hdw
          have hX := HX.out
          have hqb := hdw.q_le hX.1 hX.2.1
          clear hdw
          rcases Nat.lt_or_ge r' c with hlt | hge
          · have HD := Lib.hid (HDW2.out.done hlt)
            have f5 : ¬ c ≤ r' := by omega
            have hk9 : IntKind.i64.wrap ((k : Int) - 1) = (k : Int) - 1 := wrap_id (by have := HK.out; omega)
            clear hX hqb hr' hlt
            go_wp2_with fail
            go_roundw
            case rel => exact ⟨k, q', r', rfl, rfl, rfl, by have := HK.out; omega, HD.out, trivial⟩
            case measure => simp [RowKit.intOf]
          · obtain ⟨r3, hr3⟩ : ∃ x, x = r' - c := ⟨_, rfl⟩
            obtain ⟨q3, hq3⟩ : ∃ x, x = q' + 1 := ⟨_, rfl⟩
            have hw5 : IntKind.i64.wrap ((r' : Int) - (c : Int)) = (r3 : Int) := by rw [wrap_id (by omega)]; omega
            have hw6 : IntKind.i64.wrap ((q' : Int) + 1) = (q3 : Int) := by rw [wrap_id (by omega)]; omega
            have HD : Hid (Dw a b c k q3 r3) := by
              have h1 := HDW2.out
              rw [show r' = r3 + c by omega] at h1
              rw [hq3]
              exact h1.off
            have f5 : c ≤ r' := hge
            have HR3 := Lib.hid (show r3 ≤ 4503599627370496 ∧ r3 < r' by omega)
            clear hX hqb hr' hge hr3 hq3
            go_wp2_with fail
            go_roundw
            case rel => exact ⟨q3, r3, rfl, rfl, HD.out, HR3.out.1, trivial⟩
            case measure =>
              have := HR3.out
              simp [RowKit.intOf]; omega
#print axioms ref_check
#print axioms ref_divide
end Go.Proofs.Ytdolhanniiejfaa.Share
