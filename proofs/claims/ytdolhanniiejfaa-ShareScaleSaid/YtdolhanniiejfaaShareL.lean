/- Fair of the program and of the reference. -/
import Derived.Test.YtdolhanniiejfaaShareK
namespace Go.Proofs.Ytdolhanniiejfaa.Share
open Go.ChangeShapes Go.WideShapes Go.RowKit Go.Lib Go.Proofs.Ytdolhanniiejfaa.Mem
open Go.Proofs.Ytdolhanniiejfaa.Num (num_sum num_muldiv sumV sumE sumV_all sumE_all sumE_long sumV_long tot tot_snoc allIn inB inB_yes okV okE okV_yes okE_yes okV_no okE_no Holds mdV mdE mdV_in mdR mdM sg negB awayB InR inr_mk)
set_option linter.unusedVariables false
set_option maxRecDepth 100000

/-! ### slices.Equal -/
theorem cl_block {w : World} {A : Option Addr} {L : List Int} (h : Cl eI w A L) (h0 : 0 < L.length) : ∃ b off, A = some ⟨b, off, none⟩ ∧ ∀ j, j < L.length → w.cell? ⟨b, off + j, none⟩ = some (.int .i64 (L.getD j 0)) := by
  obtain ⟨z, hz⟩ := get_lt h0
  obtain ⟨b, off, rfl, _, _⟩ := h 0 z hz
  refine ⟨b, off, rfl, fun j hj => ?_⟩
  obtain ⟨y, hy⟩ := get_lt hj
  obtain ⟨b', off', e, _, hc⟩ := h j y hy
  cases e
  rw [hc, List.getD_eq_getElem?_getD, hy]; rfl
theorem equal_n (L M : List Int) (n m : Nat) (hn : L.length = n) (hm : M.length = m) (A B : Option Addr) (c d : Nat) (w : World) (ha : Cl eI w A L) (hb : Cl eI w B M) (h1 : n ≤ 9223372036854775807) (h2 : m ≤ 9223372036854775807) :
    Calls Try.prog 30 #[.slice A n c, .slice B m d] w fun e w' => e = .returned (.bool (decide (L = M))) ∧ Below w.heap.size w w' := by
  subst hn; subst hm
  by_cases he : L.length = M.length
  · rcases Nat.eq_zero_or_pos L.length with h0 | h0
    · have hL := List.eq_nil_of_length_eq_zero h0
      have hM := List.eq_nil_of_length_eq_zero (he.symm.trans h0)
      subst hL; subst hM
      refine (Try.slices_Equal_int_empty A B c 0 d w (by omega)).mono ?_
      rintro e w' ⟨rfl, rfl⟩
      exact ⟨by simp, Below.refl _ _⟩
    · obtain ⟨b1, o1, rfl, g1⟩ := cl_block ha h0
      obtain ⟨b2, o2, rfl, g2⟩ := cl_block hb (he ▸ h0)
      refine (Try.slices_Equal_int b1 o1 L.length c b2 o2 M.length d L M w (Nat.le_refl _) (Nat.le_refl _) h1 h2 g1 g2).mono ?_
      rintro e w' ⟨rfl, q, rfl⟩
      refine ⟨?_, below_drewN (Below.refl _ _) _⟩
      rw [List.take_length, List.take_length]
      exact ret_bool (by rw [Bool.eq_iff_iff]; simp)
  · refine (Try.slices_Equal_int_lens A B L.length c M.length d w he).mono ?_
    rintro e w' ⟨rfl, rfl⟩
    exact ⟨ret_bool (by symm; simp; intro h; exact he (by rw [h])), Below.refl _ _⟩

/-! ### What Fair says -/
def fairB (ps ws : List Int) : Bool := decide (sumE ps = 0) && (decide (errS (sumV ps) ws = 0) && decide (ps = splL (sumV ps) ws))
theorem splL_len {t : Int} {ws : List Int} (h : errS t ws = 0) : (splL t ws).length = ws.length := by unfold splL; rw [if_pos h, partsL_len]
theorem splL_pos {t : Int} {ws : List Int} : ∀ z ∈ splL t ws, 0 ≤ z := by
  intro z hz
  unfold splL at hz
  split at hz
  · unfold partsL at hz
    obtain ⟨i, _, rfl⟩ := List.mem_map.mp hz
    omega
  · cases hz
theorem sumK_lst {f : Nat → Nat} {n : Nat} : ∀ k, k ≤ n → sumK (lst (fun i => (f i : Int)) n) k = (sm f k : Int)
  | 0, _ => rfl
  | k + 1, h => by rw [sumK_succ (lst_at _ (by omega)), sumK_lst k (by omega), sm]; simp
theorem splL_sum {t : Int} {ws : List Int} (h : errS t ws = 0) : sumK (splL t ws) (splL t ws).length = t := by
  have e : splL t ws = lst (fun i => (part t.toNat (wf ws) ws.length i : Int)) ws.length := by unfold splL; rw [if_pos h]; rfl
  rw [e, lst_len, sumK_lst _ (Nat.le_refl _)]
  exact (Ok.of h).parts
theorem sumK_mono {zs : List Int} (h : ∀ z ∈ zs, 0 ≤ z) : ∀ (d k : Nat), k + d = zs.length → sumK zs k ≤ sumK zs zs.length
  | 0, k, hk => by rw [show k = zs.length by omega]; exact Int.le_refl _
  | d + 1, k, hk => by
    obtain ⟨z, hz⟩ := get_lt (show k < zs.length by omega)
    have h1 := sumK_mono h d (k + 1) (by omega)
    rw [sumK_succ hz] at h1
    have := h z (List.mem_of_getElem? hz)
    omega
structure FairOk (ps ws : List Int) : Prop where
  len : ps.length = ws.length
  pos : ∀ z ∈ ps, 0 ≤ z
  sum : sumK ps ps.length ≤ mx
theorem fairB_ok {ps ws : List Int} (h : fairB ps ws = true) : FairOk ps ws := by
  simp only [fairB, Bool.and_eq_true, decide_eq_true_eq] at h
  obtain ⟨h1, h2, h3⟩ := h
  have e1 := splL_len h2
  have e2 := splL_sum h2
  rw [← h3] at e1 e2
  exact ⟨e1, fun z hz => splL_pos z (h3 ▸ hz), by rw [e2]; exact (Ok.of h2).t1⟩
theorem fairB_no {ps ws : List Int} (h : ¬ FairOk ps ws) : fairB ps ws = false := by
  cases h1 : fairB ps ws with
  | false => rfl
  | true => exact absurd (fairB_ok h1) h
/-- Where the parts are in range: what the reference asks. -/
theorem fairB_in {ps ws : List Int} (h : FairOk ps ws) : fairB ps ws = (decide (errS (sumK ps ps.length) ws = 0) && decide (splL (sumK ps ps.length) ws = ps)) := by
  have hmx : mx = 1125899906842624 := rfl
  have ha : ∀ z ∈ ps, 0 ≤ z ∧ z ≤ mx := fun z hz => by
    refine ⟨h.pos z hz, ?_⟩
    obtain ⟨k, hk⟩ := List.mem_iff_getElem?.mp hz
    have h1 := sumK_mono h.pos (ps.length - (k + 1)) (k + 1) (by have := lt_of_get hk; omega)
    rw [sumK_succ hk] at h1
    have h2 : 0 ≤ sumK ps k := by
      have h3 := sm_sumK (ws := ps) (fun z hz => h.pos z hz) (k := k) (by have := lt_of_get hk; omega)
      omega
    have := h.sum
    omega
  have hs0 : 0 ≤ sumK ps ps.length := by
    have h3 := sm_sumK (ws := ps) (fun z hz => h.pos z hz) (Nat.le_refl ps.length)
    omega
  by_cases hl : 65536 < ps.length
  · have he : ¬ errS (sumK ps ps.length) ws = 0 := by
      intro h4
      have := (Ok.of h4).n1
      have := h.len
      omega
    unfold fairB
    rw [sumE_long hl, decide_eq_false he]; simp
  · have hall := allIn_of ha
    have hsm := h.sum
    have hV : sumV ps = sumK ps ps.length := by rw [sumV_all (by omega) hall, tot_all]; exact okV_yes (by omega) (by omega)
    have hE : sumE ps = 0 := by rw [sumE_all (by omega) hall, tot_all]; exact okE_yes (by omega) (by omega)
    unfold fairB
    rw [hV, hE]
    simp only [decide_true, Bool.true_and]
    congr 1
    rw [Bool.eq_iff_iff]; simp
    exact eq_comm

set_option maxHeartbeats 1600000 in
theorem share_fair (ps ws : List Int) (n m : Nat) (hn : ps.length = n) (hm : ws.length = m) (A B : Option Addr) (c d : Nat) (w : World) (ha : Cl eI w A ps) (hb : Cl eI w B ws) (h1 : n ≤ 9223372036854775807) (h2 : m ≤ 9223372036854775807) :
    Calls Try.prog 18 #[.slice A n c, .slice B m d] w fun e w' => e = .returned (.bool (fairB ps ws)) ∧ Below w.heap.size w w' := by
  have HSUM := Lib.hid (hn ▸ num_sum ps A c w (cl_holds ha) (by omega) : Calls Try.prog 29 #[.slice A n c] w fun e w' => e = .returned (.tuple #[.int .i64 (sumV ps), .int .i64 (sumE ps)]) ∧ Below w.heap.size w w')
  have HSP := Lib.hid (fun W (hW : Below w.heap.size w W) => split_n (sumV ps) ws m hm B d W (hb.on hW) h2)
  have HEQ := Lib.hid (fun W (hW : Below w.heap.size w W) (L : List Int) (k : Nat) (hk : L.length = k) (C : Option Addr) (cc : Nat) (hC : Cl eI W C L) (hk2 : k ≤ 9223372036854775807) => equal_n ps L n k hn hk A C c cc W (ha.on hW) hC h1 hk2)
  have HF : Hid (fairB ps ws = (decide (sumE ps = 0) && (decide (errS (sumV ps) ws = 0) && decide (ps = splL (sumV ps) ws)))) := rfl
  obtain ⟨V, hV⟩ : ∃ V, V = sumV ps := ⟨_, rfl⟩
  obtain ⟨E, hE⟩ : ∃ E, E = sumE ps := ⟨_, rfl⟩
  obtain ⟨E2, hE2⟩ : ∃ E2, E2 = errS (sumV ps) ws := ⟨_, rfl⟩
  obtain ⟨L, hL⟩ : ∃ L, L = splL (sumV ps) ws := ⟨_, rfl⟩
  rw [← hE2, ← hL, ← hE] at HF
  rw [← hE2, ← hL] at HSP
  rw [← hV, ← hE] at HSUM
  rw [← hV] at HSP
  clear ha hb hn hm hV hE hE2 hL
  by_cases hE : E = 0
  · subst hE
    by_cases hE2 : E2 = 0
    · subst hE2
      have hz0 : ((0 : Nat) : Int) = 0 := rfl
      go_enter Try.func18, Try.ntmps18
      go_wp2_with fail
      refine HSUM.out.mono ?_
      rintro e w1 ⟨rfl, hb1⟩
      have HB1 := Lib.hid hb1
      have HSP1 := Lib.hid (HSP.out w1 hb1)
      clear hb1
      go_wp2_with fail
      refine HSP1.out.mono ?_
      intro e w2 hres
      obtain ⟨C, k, cc, rfl, hk, hkl, -, hcl, hb2⟩ := hres.open_
      have HB2 : Hid (Below w.heap.size w w2) := bstep HB1.out hb2
      have HEQ2 := Lib.hid (HEQ.out w2 HB2.out L k hk C cc hcl hkl)
      obtain ⟨p, hp⟩ : ∃ p, p = decide (ps = L) := ⟨_, rfl⟩
      rw [← hp] at HF HEQ2
      have HP := Lib.hid (show fairB ps ws = p by rw [HF.out]; simp)
      clear hres hk hkl hcl hb2 hp
      rw [hz0]
      clear hz0
      go_wp2_with fail
      refine HEQ2.out.mono ?_
      rintro e w3 ⟨rfl, hb3⟩
      have HB3 := Lib.hid hb3
      clear hb3
      go_wp2_with fail
      go_ret
      exact ⟨ret_bool HP.out.symm, bstep HB2.out HB3.out⟩
    · have HP : Hid (fairB ps ws = false) := by
        show fairB ps ws = false
        rw [HF.out, decide_eq_false hE2]; simp
      have f1 : ((E2 : Int) == 0) = false := by simp; omega
      have f2 : ¬ (E2 : Int) = 0 := by omega
      go_enter Try.func18, Try.ntmps18
      go_wp2_with fail
      refine HSUM.out.mono ?_
      rintro e w1 ⟨rfl, hb1⟩
      have HB1 := Lib.hid hb1
      have HSP1 := Lib.hid (HSP.out w1 hb1)
      clear hb1
      go_wp2_with fail
      refine HSP1.out.mono ?_
      intro e w2 hres
      obtain ⟨C, k, cc, rfl, hk, hkl, -, hcl, hb2⟩ := hres.open_
      have HB2 : Hid (Below w.heap.size w w2) := bstep HB1.out hb2
      clear hres hk hkl hcl hb2
      go_wp2_with fail
      go_ret
      exact ⟨ret_bool HP.out.symm, HB2.out⟩
  · have HP : Hid (fairB ps ws = false) := by
      show fairB ps ws = false
      rw [HF.out, decide_eq_false hE]; rfl
    have f1 : (E != 0) = true := by simp [hE]
    go_enter Try.func18, Try.ntmps18
    go_wp2_with fail
    refine HSUM.out.mono ?_
    rintro e w1 ⟨rfl, hb1⟩
    have HB1 := Lib.hid hb1
    clear hb1
    go_wp2_with fail
    go_ret
    exact ⟨ret_bool HP.out.symm, HB1.out⟩

set_option maxHeartbeats 1600000 in
theorem ref_fair (ps ws : List Int) (n m : Nat) (hn : ps.length = n) (hm : ws.length = m) (A B : Option Addr) (c d : Nat) (w : World) (ha : Cl eI w A ps) (hb : Cl eI w B ws) (h1 : n ≤ 9223372036854775807) (h2 : m ≤ 9223372036854775807) :
    Calls Try.prog 19 #[.slice A n c, .slice B m d] w fun e w' => e = .returned (.bool (fairB ps ws)) ∧ Below w.heap.size w w' := by
  by_cases hnm : n = m
  · subst hnm
    have HA := Lib.hid ha
    have HN := Lib.hid hn
    have HLL := Lib.hid (show ps.length = ws.length by omega)
    have HSP := Lib.hid (fun t W (hW : Below w.heap.size w W) => rsplit_n t ws n hm B d W (hb.on hW) h2)
    have HEQ := Lib.hid (fun W (hW : Below w.heap.size w W) (L : List Int) (k : Nat) (hk : L.length = k) (C : Option Addr) (cc : Nat) (hC : Cl eI W C L) (hk2 : k ≤ 9223372036854775807) => same_n L ps k n hk hn C A cc c W hC (ha.on hW) hk2 h1)
    have f0 : ((n : Int) != (n : Int)) = false := by simp
    have f1 : (n != n) = false := by simp
    clear ha hb hn hm
    go_enter Try.func19, Try.ntmps19
    go_wp2_with fail
    go_loopw [5, 6] (fun x y wr => ∃ (k : Nat) (s : Int), k ≤ n ∧ x = .int .i64 s ∧ y = .int .i64 (k : Int) ∧ s = sumK ps k ∧ 0 ≤ s ∧ s ≤ 1125899906842624 ∧ (∀ j z, j < k → ps[j]? = some z → 0 ≤ z) ∧ wr = w) (fun _ y _ => n - (RowKit.intOf y).toNat)
    case atStart => exact ⟨0, 0, Nat.zero_le _, rfl, rfl, rfl, by omega, by omega, fun j z h => by omega, rfl⟩
    case round =>
      obtain ⟨k, s, hk, rfl, rfl, hs, hs0, hs1, hall, rfl⟩ := hrel
      have HSK := Lib.hid hs
      have HALL := Lib.hid hall
      have hmx : mx = 1125899906842624 := rfl
      clear hs hall
      rcases Nat.lt_or_ge k n with hlt | hge
      · obtain ⟨z, hz⟩ := get_lt (L := ps) (k := k) (by rw [HN.out]; exact hlt)
        obtain ⟨b, off, rfl, hb, hcell⟩ := HA.out k z hz
        have HZ := Lib.hid hz
        have i1 : (k : Int) < (n : Int) := by omega
        have i2 : (0 : Int) ≤ (k : Int) := by omega
        have i3 : k < n := hlt
        have hk1 : IntKind.i64.wrap ((k : Int) + 1) = ((k + 1 : Nat) : Int) := wrap_id (by omega)
        clear hz
        rcases Int.lt_or_le z 0 with hz0 | hz0
        · have HP : Hid (fairB ps ws = false) := fairB_no fun h => by have := h.pos z (List.mem_of_getElem? HZ.out); omega
          clear hs0 hs1 hk hlt hmx
          go_wp2_with fail
          go_ret
          exact ⟨ret_bool HP.out.symm, Below.refl _ _⟩
        · obtain ⟨u, hu⟩ : ∃ u, u = 1125899906842624 - s := ⟨_, rfl⟩
          have hwu : IntKind.i64.wrap (1125899906842624 - s) = u := by rw [wrap_id (by omega)]; omega
          have f2 : ¬ z < 0 := by omega
          rcases Int.lt_or_le u z with hz1 | hz1
          · have HP : Hid (fairB ps ws = false) := fairB_no fun h => by
              have h5 := sumK_mono h.pos (ps.length - (k + 1)) (k + 1) (by have := lt_of_get HZ.out; omega)
              rw [sumK_succ HZ.out, ← HSK.out] at h5
              have := h.sum
              omega
            clear hs0 hs1 hk hlt hu hz0 hmx
            go_wp2_with fail
            go_ret
            exact ⟨ret_bool HP.out.symm, Below.refl _ _⟩
          · have f3 : ¬ u < z := by omega
            obtain ⟨s', hs'⟩ : ∃ s', s' = s + z := ⟨_, rfl⟩
            have hw : IntKind.i64.wrap (s + z) = s' := by rw [wrap_id (by omega)]; omega
            have HX := Lib.hid (show 0 ≤ s' ∧ s' ≤ 1125899906842624 ∧ k + 1 ≤ n ∧ s' = s + z ∧ 0 ≤ z by omega)
            clear hs0 hs1 hk hlt hu hz0 hz1 hs' hmx
            go_wp2_with fail
            go_roundw
            case rel => exact ⟨k + 1, s', HX.out.2.2.1, rfl, rfl, by rw [sumK_succ HZ.out, ← HSK.out]; exact HX.out.2.2.2.1, HX.out.1, HX.out.2.1, fun j y h3 h4 => by
              rcases Nat.lt_or_ge j k with h5 | h5
              · exact HALL.out j y h5 h4
              · obtain rfl : j = k := by omega
                rw [HZ.out] at h4; cases h4; exact HX.out.2.2.2.2, trivial⟩
            case measure =>
              have := HX.out
              simp [RowKit.intOf]; omega
      · obtain rfl : n = k := by omega
        have HOK : Hid (FairOk ps ws) := ⟨HLL.out, fun z hz => by
          obtain ⟨j, hj⟩ := List.mem_iff_getElem?.mp hz
          exact HALL.out j z (by rw [← HN.out]; exact lt_of_get hj) hj, by rw [HN.out, ← HSK.out, hmx]; exact hs1⟩
        have HF := Lib.hid (fairB_in HOK.out)
        have HS2 := Lib.hid (show sumK ps ps.length = s by rw [HN.out]; exact HSK.out.symm)
        rw [HS2.out] at HF
        have HSP1 := Lib.hid (HSP.out s wr (Below.refl _ _))
        obtain ⟨E2, hE2⟩ : ∃ E2, E2 = errS s ws := ⟨_, rfl⟩
        obtain ⟨L, hL⟩ : ∃ L, L = splL s ws := ⟨_, rfl⟩
        rw [← hE2, ← hL] at HF HSP1
        clear hs0 hs1 hk hge hmx hE2 hL
        by_cases hE2 : E2 = 0
        · subst hE2
          have hz0 : ((0 : Nat) : Int) = 0 := rfl
          go_wp2_with fail
          refine HSP1.out.mono ?_
          intro e w2 hres
          obtain ⟨C, k, cc, rfl, hk, hkl, -, hcl, hb2⟩ := hres.open_
          have HB2 := Lib.hid hb2
          have HEQ2 := Lib.hid (HEQ.out w2 HB2.out L k hk C cc hcl hkl)
          obtain ⟨p, hp⟩ : ∃ p, p = decide (L = ps) := ⟨_, rfl⟩
          rw [← hp] at HF HEQ2
          have HP := Lib.hid (show fairB ps ws = p by rw [HF.out]; simp)
          clear hres hk hkl hcl hb2 hp
          rw [hz0]
          clear hz0
          go_wp2_with fail
          refine HEQ2.out.mono ?_
          rintro e w3 ⟨rfl, hb3⟩
          have HB3 := Lib.hid hb3
          clear hb3
          go_wp2_with fail
          go_ret
          exact ⟨ret_bool HP.out.symm, bstep HB2.out HB3.out⟩
        · have HP : Hid (fairB ps ws = false) := by
            show fairB ps ws = false
            rw [HF.out, decide_eq_false hE2]; rfl
          have f4 : ((E2 : Int) == 0) = false := by simp; omega
          have f5 : ¬ (E2 : Int) = 0 := by omega
          go_wp2_with fail
          refine HSP1.out.mono ?_
          intro e w2 hres
          obtain ⟨C, k, cc, rfl, hk, hkl, -, hcl, hb2⟩ := hres.open_
          have HB2 := Lib.hid hb2
          clear hres hk hkl hcl hb2
          go_wp2_with fail
          go_ret
          exact ⟨ret_bool HP.out.symm, HB2.out⟩
  · have HP : Hid (fairB ps ws = false) := fairB_no fun h => by have := h.len; omega
    have f0 : ((n : Int) != (m : Int)) = true := by simp; omega
    have f1 : (n != m) = true := by simp [hnm]
    clear ha hb hn hm
    go_enter Try.func19, Try.ntmps19
    go_wp2_with fail
    go_ret
    exact ⟨ret_bool HP.out.symm, Below.refl _ _⟩
#print axioms share_fair
#print axioms ref_fair
end Go.Proofs.Ytdolhanniiejfaa.Share
