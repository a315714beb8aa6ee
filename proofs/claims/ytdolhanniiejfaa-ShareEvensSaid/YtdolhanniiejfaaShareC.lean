/- share.inRange, share.divisor, share.divide. -/
import Derived.Test.YtdolhanniiejfaaShareB
import Derived.Test.YtdolhanniiejfaaMemA
import Derived.Test.YtdolhanniiejfaaZumH
import Derived.Test.YtdolhanniiejfaaZumL
namespace Go.Proofs.Ytdolhanniiejfaa.Share
open Go.ChangeShapes Go.WideShapes Go.RowKit Go.Lib Go.Proofs.Ytdolhanniiejfaa.Mem
open Go.Proofs.Ytdolhanniiejfaa.Num (num_sum num_muldiv sumV sumE sumV_all sumE_all sumE_long sumV_long tot tot_snoc allIn inB inB_yes okV okE okV_yes okE_yes okV_no okE_no Holds mdV mdE mdV_in mdR mdM sg negB awayB InR inr_mk)
set_option linter.unusedVariables false
set_option maxRecDepth 100000

theorem cl_holds {w : World} {A : Option Addr} {zs : List Int} (h : Cl eI w A zs) : Holds w w.heap.size A zs := fun k z hz => h k z hz
theorem tot_sumK (zs : List Int) : ∀ k, k ≤ zs.length → tot (zs.take k) = sumK zs k := by
  intro k
  induction k with
  | zero => intro _; rfl
  | succ k ih =>
    intro hk
    have hz : zs[k]? = some zs[k] := List.getElem?_eq_getElem (by omega)
    rw [take_snoc_of hz, tot_snoc, ih (by omega), sumK_succ hz]
theorem tot_all (zs : List Int) : tot zs = sumK zs zs.length := by
  have := tot_sumK zs zs.length (Nat.le_refl _)
  rwa [List.take_length] at this
theorem allIn_of {zs : List Int} (h : ∀ z ∈ zs, 0 ≤ z ∧ z ≤ mx) : allIn zs = true := by
  unfold allIn
  rw [List.all_eq_true]
  intro z hz
  have := h z hz
  exact inB_yes (by omega) this.2
/-- What the products are divided by. -/
def dvV (t : Int) (ws : List Int) : Int := if errS t ws = 0 then if sumK ws ws.length = 0 then 1 else sumK ws ws.length else 0
theorem errS_t {t : Int} {ws : List Int} (h : inW t = false) : errS t ws = 1 := if_pos h
theorem errS_0 {t : Int} {ws : List Int} (h : inW t = true) (h0 : ws.length = 0) : errS t ws = 10 := by unfold errS; rw [if_neg (by rw [h]; simp), if_pos h0]
theorem errS_n {t : Int} {ws : List Int} (h : inW t = true) (h0 : 512 < ws.length) : errS t ws = 8 := by unfold errS; rw [if_neg (by rw [h]; simp), if_neg (by omega), if_pos h0]
theorem errS_w {t : Int} {ws : List Int} (h : inW t = true) (h0 : 0 < ws.length) (h1 : ws.length ≤ 512) {k : Nat} {z : Int} (hz : ws[k]? = some z) (hi : inW z = false) : errS t ws = 1 := by
  unfold errS
  have : ws.all inW = false := all_not hz hi
  rw [if_neg (by rw [h]; simp), if_neg (by omega), if_neg (by omega), if_pos this]
theorem errS_s {t : Int} {ws : List Int} (h : inW t = true) (h0 : 0 < ws.length) (h1 : ws.length ≤ 512) (ha : ∀ z ∈ ws, 0 ≤ z ∧ z ≤ mx) : errS t ws = if mx < sumK ws ws.length then 2 else if sumK ws ws.length = 0 ∧ t ≠ 0 then 16 else 0 := by
  unfold errS
  rw [if_neg (by rw [h]; simp), if_neg (by omega), if_neg (by omega), if_neg (by rw [all_in.mpr ha]; simp)]
theorem two_is {a b c d : Int} (h : a = c) (k : b = d) : Ending.returned (.tuple #[.int .i64 a, .int .i64 b]) = .returned (.tuple #[.int .i64 c, .int .i64 d]) := by rw [h, k]

theorem share_in (n : Int) (w : World) : Calls Try.prog 35 #[.int .i64 n] w fun e w' => e = .returned (.bool (inW n)) ∧ w = w' := by
  rcases Int.lt_or_le n 0 with h | h
  · have h1 : inW n = false := inW_no.mpr (Or.inl h)
    have h2 : ¬ 0 ≤ n := by omega
    rw [h1]
    go_enter Try.func35, Try.ntmps35
    go_wp2_with fail
    go_ret
    exact ⟨rfl, rfl⟩
  · rcases Int.lt_or_le mx n with k | k
    · have h1 : inW n = false := inW_no.mpr (Or.inr k)
      have h2 : 0 ≤ n := h
      have h3 : ¬ n ≤ 1125899906842624 := by have hm : mx = 1125899906842624 := rfl; omega
      rw [h1]
      go_enter Try.func35, Try.ntmps35
      go_wp2_with fail
      go_ret
      exact ⟨rfl, rfl⟩
    · have h1 : inW n = true := inW_iff.mpr ⟨h, k⟩
      have h2 : 0 ≤ n := h
      have h3 : n ≤ 1125899906842624 := k
      rw [h1]
      go_enter Try.func35, Try.ntmps35
      go_wp2_with fail
      go_ret
      exact ⟨rfl, rfl⟩

set_option maxHeartbeats 1600000 in
theorem share_divisor (t : Int) (ws : List Int) (A : Option Addr) (c : Nat) (w : World) (hS : Cl eI w A ws) (hl : ws.length ≤ 9223372036854775807) :
    Calls Try.prog 23 #[.int .i64 t, .slice A ws.length c] w fun e w' => e = .returned (.tuple #[.int .i64 (dvV t ws), .int .i64 (errS t ws : Int)]) ∧ Below w.heap.size w w' := by
  have HIN := Lib.hid (fun W => share_in t W)
  obtain ⟨N, hN⟩ : ∃ N, ws.length = N := ⟨_, rfl⟩
  have HN := Lib.hid hN
  have HSUM := Lib.hid (fun W (h : Below w.heap.size w W) => num_sum ws A c W (cl_holds (hS.on h)) hl)
  have HS := Lib.hid hS
  rw [hN] at hl HSUM ⊢
  clear hS hN
  cases hi : inW t with
  | false =>
    have HD : Hid (dvV t ws = 0 ∧ (errS t ws : Int) = 1) := by
      have := errS_t (ws := ws) hi
      refine ⟨by unfold dvV; rw [this]; rfl, by rw [this]; rfl⟩
    rw [hi] at HIN
    clear hi
    go_enter Try.func23, Try.ntmps23
    go_wp2_with fail
    refine (HIN.out _).mono ?_
    rintro e w' ⟨rfl, rfl⟩
    go_wp2_with fail
    go_ret2
    exact ⟨two_is HD.out.1.symm HD.out.2.symm, Below.refl _ _⟩
  | true =>
    have HI := Lib.hid hi
    rw [hi] at HIN
    clear hi
    rcases Nat.eq_zero_or_pos N with rfl | hpos
    · have HD : Hid (dvV t ws = 0 ∧ (errS t ws : Int) = 10) := by
        have := errS_0 HI.out HN.out
        refine ⟨by unfold dvV; rw [this]; rfl, by rw [this]; rfl⟩
      go_enter Try.func23, Try.ntmps23
      go_wp2_with fail
      refine (HIN.out _).mono ?_
      rintro e w' ⟨rfl, rfl⟩
      go_wp2_with fail
      go_ret2
      exact ⟨two_is HD.out.1.symm HD.out.2.symm, Below.refl _ _⟩
    · rcases Nat.lt_or_ge 512 N with hbig | hle
      · have HD : Hid (dvV t ws = 0 ∧ (errS t ws : Int) = 8) := by
          have := errS_n HI.out (by rw [HN.out]; exact hbig)
          refine ⟨by unfold dvV; rw [this]; rfl, by rw [this]; rfl⟩
        have b1 : ¬ N = 0 := by omega
        have b2 : (512 : Int) < (N : Int) := by omega
        have b3 : ((N : Int) == 0) = false := by simp; omega
        go_enter Try.func23, Try.ntmps23
        go_wp2_with fail
        refine (HIN.out _).mono ?_
        rintro e w' ⟨rfl, rfl⟩
        go_wp2_with fail
        go_ret2
        exact ⟨two_is HD.out.1.symm HD.out.2.symm, Below.refl _ _⟩
      · have HP := Lib.hid (show 0 < N ∧ N ≤ 512 from ⟨hpos, hle⟩)
        have b1 : ¬ N = 0 := by omega
        have b2 : decide ((512 : Int) < (N : Int)) = false := decide_eq_false (by omega)
        have b3 : ((N : Int) == 0) = false := by simp; omega
        clear hpos hle
        go_enter Try.func23, Try.ntmps23
        go_wp2_with fail
        refine (HIN.out _).mono ?_
        rintro e w' ⟨rfl, rfl⟩
        go_wp2_with fail
        go_loopw [7, 21] (fun _ x wr => ∃ k : Nat, k ≤ N ∧ x = .int .i64 (k : Int) ∧ (∀ (j : Nat) z, j < k → ws[j]? = some z → inW z = true) ∧ wr = w) (fun _ x _ => N - (RowKit.intOf x).toNat)
        case atStart => exact ⟨0, Nat.zero_le _, rfl, fun j z h => by omega, rfl⟩
        case round =>
          obtain ⟨k, hk, rfl, hall, rfl⟩ := hrel
          have HALL := Lib.hid hall
          clear hall
          rcases Nat.lt_or_ge k N with hlt | hge
          · obtain ⟨z, hz⟩ := get_lt (L := ws) (k := k) (by rw [HN.out]; exact hlt)
            obtain ⟨b, off, rfl, hb, hcell⟩ := HS.out k z hz
            have HZ := Lib.hid hz
            have HIZ := Lib.hid (fun W => share_in z W)
            have i1 : (k : Int) < (N : Int) := by omega
            have i2 : (0 : Int) ≤ (k : Int) := by omega
            have hk1 : IntKind.i64.wrap ((k : Int) + 1) = ((k + 1 : Nat) : Int) := wrap_id (by omega)
            clear hz
            cases hi : inW z with
            | true =>
              have HIT := Lib.hid hi
              rw [hi] at HIZ
              clear hi
              go_wp2_with fail
              refine (HIZ.out _).mono ?_
              rintro e w' ⟨rfl, rfl⟩
              go_wp2_with fail
              go_roundw
              case rel => exact ⟨k + 1, by omega, rfl, fun j y h1 h2 => by
                rcases Nat.lt_or_ge j k with h3 | h3
                · exact HALL.out j y h3 h2
                · obtain rfl : j = k := by omega
                  rw [HZ.out] at h2; cases h2; exact HIT.out, trivial⟩
              case measure => simp [RowKit.intOf]; omega
            | false =>
              have HD : Hid (dvV t ws = 0 ∧ (errS t ws : Int) = 1) := by
                have := errS_w HI.out (by rw [HN.out]; exact HP.out.1) (by rw [HN.out]; exact HP.out.2) HZ.out hi
                refine ⟨by unfold dvV; rw [this]; rfl, by rw [this]; rfl⟩
              rw [hi] at HIZ
              clear hi
              go_wp2_with fail
              refine (HIZ.out _).mono ?_
              rintro e w' ⟨rfl, rfl⟩
              go_wp2_with fail
              go_ret2
              exact ⟨two_is HD.out.1.symm HD.out.2.symm, Below.refl _ _⟩
          · obtain rfl : N = k := by omega
            have HA : Hid (∀ z ∈ ws, 0 ≤ z ∧ z ≤ mx) := fun z hz => by
              obtain ⟨j, hj⟩ := List.mem_iff_getElem?.mp hz
              exact inW_iff.mp (HALL.out j z (by rw [← HN.out]; exact lt_of_get hj) hj)
            have HE := Lib.hid (errS_s HI.out (by rw [HN.out]; exact HP.out.1) (by rw [HN.out]; exact HP.out.2) HA.out)
            have HV : Hid (sumV ws = okV (sumK ws ws.length) ∧ sumE ws = okE (sumK ws ws.length)) := by
              have h1 : ws.length ≤ 65536 := by have := HP.out; rw [HN.out]; omega
              have h2 := allIn_of HA.out
              refine ⟨by rw [sumV_all h1 h2, tot_all], by rw [sumE_all h1 h2, tot_all]⟩
            have HGE : Hid (0 ≤ sumK ws ws.length) := by
              have := sm_sumK (fun z hz => (HA.out z hz).1) (Nat.le_refl ws.length)
              show 0 ≤ _
              omega
            have HDV : Hid (dvV t ws = if errS t ws = 0 then if sumK ws ws.length = 0 then 1 else sumK ws ws.length else 0) := rfl
            have HTI : Hid (0 ≤ t ∧ t ≤ mx) := inW_iff.mp HI.out
            obtain ⟨S, hS⟩ : ∃ S, S = sumK ws ws.length := ⟨_, rfl⟩
            rw [← hS] at HE HV HGE HDV
            clear hS
            have HSUM2 := Lib.hid (HSUM.out wr (Below.refl _ _))
            rw [HV.out.1, HV.out.2] at HSUM2
            rcases Int.lt_or_le mx S with hS | hS
            · have HD : Hid (dvV t ws = 0 ∧ (errS t ws : Int) = 2) := by
                have := HE.out
                rw [if_pos hS] at this
                refine ⟨by rw [HDV.out, this]; rfl, by rw [this]; rfl⟩
              rw [okV_no (Or.inr hS), okE_no (Or.inr hS)] at HSUM2
              clear hS
              go_wp2_with fail
              refine HSUM2.out.mono ?_
              rintro e w2 ⟨rfl, hb2⟩
              have HB2 := Lib.hid hb2
              clear hb2
              go_wp2_with fail
              go_ret2
              exact ⟨two_is HD.out.1.symm HD.out.2.symm, HB2.out⟩
            · rw [okV_yes (by have := HGE.out; omega) hS, okE_yes (by have := HGE.out; omega) hS] at HSUM2
              rcases Int.lt_or_le 0 S with hp | hp
              · have HD : Hid (dvV t ws = S ∧ (errS t ws : Int) = 0) := by
                  have := HE.out
                  rw [if_neg (by omega), if_neg (by omega)] at this
                  refine ⟨by rw [HDV.out, this, if_pos rfl, if_neg (by omega)], by rw [this]; rfl⟩
                have b4 : 0 < S := hp
                clear hS hp
                go_wp2_with fail
                refine HSUM2.out.mono ?_
                rintro e w2 ⟨rfl, hb2⟩
                have HB2 := Lib.hid hb2
                clear hb2
                go_wp2_with fail
                go_ret2
                exact ⟨two_is HD.out.1.symm HD.out.2.symm, HB2.out⟩
              · obtain rfl : S = 0 := by have := HGE.out; omega
                rcases Int.lt_or_le 0 t with ht | ht
                · have HD : Hid (dvV t ws = 0 ∧ (errS t ws : Int) = 16) := by
                    have := HE.out
                    rw [if_neg (by omega), if_pos ⟨rfl, by omega⟩] at this
                    refine ⟨by rw [HDV.out, this]; rfl, by rw [this]; rfl⟩
                  have b4 : 0 < t := ht
                  clear hS hp ht
                  go_wp2_with fail
                  refine HSUM2.out.mono ?_
                  rintro e w2 ⟨rfl, hb2⟩
                  have HB2 := Lib.hid hb2
                  clear hb2
                  go_wp2_with fail
                  go_ret2
                  exact ⟨two_is HD.out.1.symm HD.out.2.symm, HB2.out⟩
                · have ht0 : t = 0 := by have := HTI.out; omega
                  have HD : Hid (dvV t ws = 1 ∧ (errS t ws : Int) = 0) := by
                    have := HE.out
                    rw [if_neg (by omega), if_neg (fun h => h.2 ht0)] at this
                    refine ⟨by rw [HDV.out, this]; rfl, by rw [this]; rfl⟩
                  have b4 : ¬ 0 < t := by omega
                  clear hS hp ht ht0
                  go_wp2_with fail
                  refine HSUM2.out.mono ?_
                  rintro e w2 ⟨rfl, hb2⟩
                  have HB2 := Lib.hid hb2
                  clear hb2
                  go_wp2_with fail
                  go_ret2
                  exact ⟨two_is HD.out.1.symm HD.out.2.symm, HB2.out⟩

/-! ### The division -/
theorem md_down {T w W : Nat} (hW : 0 < W) (hT : T ≤ 1125899906842624) (hwW : w ≤ W) (hW2 : W ≤ 1125899906842624) : mdV (T : Int) (w : Int) (W : Int) 0 = ((T * w / W : Nat) : Int) := by
  have hq : T * w / W ≤ T := Nat.div_le_of_le_mul (by rw [Nat.mul_comm W T]; exact Nat.mul_le_mul_left _ hwW)
  have h1 : InR (T : Int) ∧ InR (w : Int) ∧ InR (W : Int) := ⟨inr_mk (by omega) (by omega), inr_mk (by omega) (by omega), inr_mk (by omega) (by omega)⟩
  have hn : negB (T : Int) (w : Int) (W : Int) = false := by
    unfold negB
    rw [decide_eq_false (by omega), decide_eq_false (by omega), decide_eq_false (by omega)]; rfl
  have hm : mdR (T : Int) (w : Int) (W : Int) 0 = ((T * w / W : Nat) : Int) := by
    unfold mdR mdM sg
    rw [hn]
    simp only [Int.natAbs_natCast]
    have : awayB (T * w / W) (T * w % W) W 0 false = false := by unfold awayB; simp
    simp [this]
  rw [mdV_in h1 (by omega) (by omega), hm]
  generalize T * w / W = q at hq ⊢
  exact okV_yes (by omega) (by omega)
/-- The difference of two products that wrapped around. -/
theorem wrap_diff {x y r : Int} (h : x - y = r) (h0 : 0 ≤ r) (h1 : r ≤ 1125899906842624) : IntKind.i64.wrap (IntKind.i64.wrap x - IntKind.i64.wrap y) = r := by
  simp only [IntKind.wrap_i64]; omega

set_option maxHeartbeats 800000 in
theorem share_divide {T x W : Nat} (hW : 0 < W) (hT : T ≤ 1125899906842624) (hxW : x ≤ W) (hW2 : W ≤ 1125899906842624) (w : World) :
    Calls Try.prog 24 #[.int .i64 (T : Int), .int .i64 (x : Int), .int .i64 (W : Int)] w fun e w' => e = .returned (.tuple #[.int .i64 ((T * x / W : Nat) : Int), .int .i64 ((T * x % W : Nat) : Int)]) ∧ Below w.heap.size w w' := by
  have h := num_muldiv (T : Int) (x : Int) (W : Int) 0 w
  rw [md_down hW hT hxW hW2] at h
  have HC := Lib.hid h
  obtain ⟨q, hq⟩ : ∃ q, q = T * x / W := ⟨_, rfl⟩
  obtain ⟨r, hr⟩ : ∃ r, r = T * x % W := ⟨_, rfl⟩
  have hrl : r < W := hr ▸ Nat.mod_lt _ hW
  have he : (T : Int) * (x : Int) - (q : Int) * (W : Int) = (r : Int) := by
    have := Nat.div_add_mod (T * x) W
    rw [← hq, ← hr, Nat.mul_comm W q] at this
    have h2 : ((q * W + r : Nat) : Int) = ((T * x : Nat) : Int) := by rw [this]
    simp only [Int.natCast_add, Int.natCast_mul] at h2
    omega
  have e1 := wrap_diff he (by omega) (by omega)
  obtain ⟨y, hy⟩ : ∃ y, y = IntKind.i64.wrap ((T : Int) * (x : Int)) := ⟨_, rfl⟩
  obtain ⟨z, hz⟩ : ∃ z, z = IntKind.i64.wrap ((q : Int) * (W : Int)) := ⟨_, rfl⟩
  obtain ⟨E, hE⟩ : ∃ E, E = mdE (T : Int) (x : Int) (W : Int) 0 := ⟨_, rfl⟩
  rw [← hq, ← hE] at HC
  rw [← hq, ← hr]
  rw [← hy, ← hz] at e1
  have f1 := hy.symm
  have f2 := hz.symm
  clear h hq hr hrl he hy hz hE
  go_enter Try.func24, Try.ntmps24
  go_wp2_with fail
  refine HC.out.mono ?_
  rintro e w2 ⟨rfl, hb2⟩
  have HB2 := Lib.hid hb2
  clear hb2
  go_wp2_with fail
  go_ret2
  exact ⟨rfl, HB2.out⟩
#print axioms share_divisor
#print axioms share_divide
end Go.Proofs.Ytdolhanniiejfaa.Share
