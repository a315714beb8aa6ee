/- AlignInverse, AlignLine -/
import Derived.Test.YtkbnhmgladkojaaAlignW
namespace Go.Proofs.Ytkbnhmgladkojaa.Align
open Go.ChangeShapes Go.WideShapes Go.RowKit Go.Lib Go.Proofs.Ytkbnhmgladkojaa.Rw
set_option linter.unusedVariables false
set_option maxRecDepth 100000

theorem sound_val {L : List Mk} (hz : chkA L = 0) {m q : Mk} {N : Nat} (h : Ac L m q N) {x y : Int} (h0 : m.1 ≤ x) (h1 : x ≤ y) : valA L x ≤ valA L y := by
  obtain ⟨m', r, rfl, hv⟩ := Va.of hz
  obtain rfl : m' = m := h.fs
  exact (fwd_mono hv.gro h0 h1).1
theorem Ac.at_mark {L : List Mk} (hz : chkA L = 0) {m q : Mk} {N : Nat} (h : Ac L m q N) {k : Nat} {p : Mk} (hp : L[k]? = some p) : (m.1 ≤ p.1 ∧ p.1 ≤ q.1) ∧ valA L p.1 = p.2 := by
  have hk : k ≤ N := by have := glt hp; have := h.len; omega
  have h1 : m.1 ≤ p.1 := by
    rcases Nat.eq_zero_or_pos k with h0 | h0
    · subst h0; rw [h.fst] at hp; cases hp; exact Int.le_refl _
    · exact Int.le_of_lt (h.aft h.fst h0 hp).1
  have h2 : p.1 ≤ q.1 := by
    rcases Nat.lt_or_eq_of_le hk with h0 | h0
    · exact Int.le_of_lt (h.aft hp h0 h.lst).1
    · subst h0; rw [h.lst] at hp; cases hp; exact Int.le_refl _
  refine ⟨⟨h1, h2⟩, ?_⟩
  rcases Nat.lt_or_eq_of_le hk with h0 | h0
  · obtain ⟨n, hn⟩ := get_lt (L := L) (k := k + 1) (by have := h.len; omega)
    have hpn := h.pair k p n hp hn
    rw [h.seg k p n hp hn p.1 (Int.le_refl _) (Int.le_of_lt hpn.1), seg_lo]
  · subst h0
    obtain ⟨K, rfl⟩ : ∃ K, k = K + 1 := ⟨k - 1, by have := h.two; omega⟩
    obtain ⟨x, hx⟩ := get_lt (L := L) (k := K) (by have := h.len; omega)
    have hxp := h.pair K x p hx hp
    rw [h.seg K x p hx hp p.1 (Int.le_of_lt hxp.1) (Int.le_refl _), seg_hi hxp]
/-- Thinned marks: accepted, the same Forward everywhere, not thinned further. -/
theorem thin_same {L : List Mk} (hz : chkA L = 0) : chkA (thnV L) = 0 ∧ thnV (thnV L) = thnV L ∧ ∀ a, fwdE (thnV L) a = fwdE L a ∧ fwdV (thnV L) a = fwdV L a := by
  obtain ⟨m, r, rfl, hv⟩ := Va.of hz
  have e : thnV (m :: r) = m :: thn m r := by unfold thnV; rw [if_pos hz]
  have hz2 : chkA (m :: thn m r) = 0 := hv.thin.chk
  have hE : ∀ a, fwdE (m :: thn m r) a = fwdE (m :: r) a := fun a => by
    unfold fwdE
    rw [if_pos hz, if_pos hz2]
    show (if m.1 ≤ a ∧ a ≤ (end_ m (thn m r)).1 then (0 : Int) else 1) = if m.1 ≤ a ∧ a ≤ (end_ m r).1 then 0 else 1
    rw [thn_end]
  rw [e]
  refine ⟨hz2, ?_, fun a => ⟨hE a, ?_⟩⟩
  · show thnV (m :: thn m r) = m :: thn m r
    unfold thnV
    rw [if_pos hz2]
    show m :: thn m (thn m r) = m :: thn m r
    rw [thn_thn r m hv.gro]
  · unfold fwdV
    rw [hE a]
    split
    · rename_i h0
      show fwd m (thn m r) a = fwd m r a
      have h1 : m.1 ≤ a := by
        unfold fwdE at h0
        rw [if_pos hz] at h0
        by_cases hc : (fsA (m :: r)).1 ≤ a ∧ a ≤ (laA (m :: r)).1
        · exact hc.1
        · rw [if_neg hc] at h0; cases h0
      exact thn_fwd r m hv.gro h1
    · rfl
set_option maxHeartbeats 6400000 in
theorem walk_AlignInverse (w : World) (A : Option Addr) (c : Nat) (L : List Mk) (ha : Mks w A L) (hcap : L.length ≤ c) (hm : L.length ≤ 9223372036854775807) (a y : Int) :
    Calls Try.prog 8 #[.slice A L.length c, .int .i64 a, .int .i64 y] w fun e w' => e = .returned (.bool true) ∧ Below w.heap.size w w' := by
  have HA := Lib.hid ha
  have HCap := Lib.hid hcap
  clear ha hcap
  by_cases hf : L.length ≤ 100
  rotate_left
  · have hfd : decide (L.length ≤ 100) = false := decide_eq_false hf
    clear hf
    go_enter Try.func8, Try.ntmps8
    go_wp2_with fail
    refine (law_few L A c _ hfd).mono ?_
    rintro e w' ⟨rfl, rfl⟩
    go_wp2_with fail
    refine (law_awake _).mono ?_
    rintro e w1 ⟨rfl, hb⟩
    have B1 := Lib.hid hb
    clear hb
    go_wp2_with fail
    go_ret
    exact ⟨rfl, B1.out⟩
  have hfd : decide (L.length ≤ 100) = true := decide_eq_true hf
  clear hf
  by_cases hz : chkA L = 0
  rotate_left
  · obtain ⟨z1, z2⟩ := ne_tests hz
    have HCk := Lib.hid fun (W : World) (h : Mks W A L) => align_Check L A c W h hm HCap.out
    obtain ⟨E, hE⟩ : ∃ E, chkA L = E := ⟨_, rfl⟩
    rw [hE] at HCk z1 z2
    clear hE hz
    go_enter Try.func8, Try.ntmps8
    go_wp2_with fail
    refine (law_few L A c _ hfd).mono ?_
    rintro e w' ⟨rfl, rfl⟩
    go_wp2_with fail
    refine (HCk.out w HA.out).mono ?_
    rintro e w1 ⟨rfl, hb⟩
    have B1 := Lib.hid hb
    clear hb
    go_wp2_with fail
    refine (law_awake w1).mono ?_
    rintro e w2 ⟨rfl, hb⟩
    have B2 := Lib.hid (bstep B1.out hb)
    clear hb
    go_wp2_with fail
    go_ret
    exact ⟨rfl, B2.out⟩
  have HZ := Lib.hid hz
  obtain ⟨m, q, N, hac⟩ := Ac.of hz
  have HC := Lib.hid hac
  have HCk := Lib.hid fun (W : World) (h : Mks W A L) => align_Check L A c W h hm HCap.out
  rw [hz] at HCk
  clear hz
  have HFw := Lib.hid fun (x : Int) (W : World) (h : Mks W A L) => align_Forward L A c x W h hm HCap.out
  have HBw := Lib.hid fun (x : Int) (W : World) (h : Mks W A L) => align_Back L A c x W h hm HCap.out
  go_enter Try.func8, Try.ntmps8
  go_wp2_with fail
  refine (law_few L A c _ hfd).mono ?_
  rintro e w' ⟨rfl, rfl⟩
  go_wp2_with fail
  refine (HCk.out w HA.out).mono ?_
  rintro e w1 ⟨rfl, hb⟩
  have B1 := Lib.hid hb
  clear hb
  have hN := hac.len
  have h1N := hac.two
  have hNf := hac.few
  obtain ⟨g, off, rfl, hg⟩ := rd_ne (HA.out.on B1.out) (show 0 < L.length by omega)
  have HMc : Hid (∀ W, Below w.heap.size w W → (W.cell? ⟨g, off, none⟩ = some (.int .i64 m.1) ∧ W.cell? ⟨g, off + 1, none⟩ = some (.int .i64 m.2)) ∧ (W.cell? ⟨g, off + N * 2, none⟩ = some (.int .i64 q.1) ∧ W.cell? ⟨g, off + N * 2 + 1, none⟩ = some (.int .i64 q.2))) := fun W hb => by
    obtain ⟨c0, c1⟩ := at_k (HA.out.on hb) HC.out.fst
    rw [Nat.zero_mul, Nat.add_zero] at c0 c1
    exact ⟨⟨c0, c1⟩, at_k (HA.out.on hb) HC.out.lst⟩
  have wN : IntKind.i64.wrap (N : Int) = (N : Int) := wrap_id (by omega)
  have i0 : (0 : Int) < (N : Int) + 1 := by omega
  have i1 : (N : Int) < (N : Int) + 1 := by omega
  have n0 : ((N : Int) + 1 == 0) = false := beq_false_of_ne (by omega)
  have n1 : ¬ (N : Int) + 1 = 0 := by omega
  clear hac
  have hmq := HC.out.aft HC.out.fst h1N HC.out.lst
  have hm0 := HC.out.at_ HC.out.fst
  have hq0 := HC.out.at_ HC.out.lst
  rcases Int.lt_or_le y m.2 with j0 | j0
  · obtain ⟨e1, e2⟩ := bckE_out HZ.out HC.out (Or.inl j0)
    have HB1' := HBw.out y
    rw [e1, e2, hN] at HB1'
    replace HB1' := Lib.hid HB1'
    have d0 : decide (m.2 ≤ y) = false := decide_eq_false (by omega)
    clear e1 e2 j0
    go_wp2_with fail
    refine (HB1'.out w1 (HA.out.on B1.out)).mono ?_
    rintro e w2 ⟨rfl, hb⟩
    have B2 := Lib.hid (bstep B1.out hb)
    clear hb
    obtain ⟨⟨c0, c1⟩, c2, c3⟩ := HMc.out _ B2.out
    rcases Int.lt_or_le m.1 a with k0 | k0
    rotate_left
    · have t0 : decide (a ≤ m.1) = true := decide_eq_true k0
      clear k0
      go_wp2_with fail
      refine (law_awake w2).mono ?_
      rintro e w3 ⟨rfl, hb⟩
      have B3 := Lib.hid (bstep B2.out hb)
      clear hb
      go_wp2_with fail
      go_ret
      exact ⟨rfl, B3.out⟩
    have t0 : decide (a ≤ m.1) = false := decide_eq_false (by omega)
    rcases Int.lt_or_le q.1 a with k1 | k1
    · have t1 : decide (q.1 < a) = true := decide_eq_true k1
      clear k0 k1
      go_wp2_with fail
      refine (law_awake w2).mono ?_
      rintro e w3 ⟨rfl, hb⟩
      have B3 := Lib.hid (bstep B2.out hb)
      clear hb
      go_wp2_with fail
      go_ret
      exact ⟨rfl, B3.out⟩
    have t1 : decide (q.1 < a) = false := decide_eq_false (by omega)
    have wa : IntKind.i64.wrap (a - 1) = a - 1 := wrap_id (by omega)
    obtain ⟨a', ha'⟩ : ∃ a', a - 1 = a' := ⟨_, rfl⟩
    rw [ha'] at wa
    obtain ⟨e1, e2⟩ := fwdE_in HZ.out HC.out (show m.1 ≤ a by omega) k1
    obtain ⟨e3, e4⟩ := fwdE_in HZ.out HC.out (show m.1 ≤ a' by omega) (show a' ≤ q.1 by omega)
    have hmono := sound_val HZ.out HC.out (show m.1 ≤ a' by omega) (show a' ≤ a by omega)
    have HF1 := HFw.out a
    have HF2 := HFw.out a'
    rw [e1, e2, hN] at HF1
    rw [e3, e4, hN] at HF2
    obtain ⟨V1, hV1⟩ : ∃ V, valA L a = V := ⟨_, rfl⟩
    obtain ⟨V2, hV2⟩ : ∃ V, valA L a' = V := ⟨_, rfl⟩
    rw [hV1] at HF1 hmono
    rw [hV2] at HF2 hmono
    replace HF1 := Lib.hid HF1
    replace HF2 := Lib.hid HF2
    have t2 : decide (V2 ≤ V1) = true := decide_eq_true hmono
    clear e1 e2 e3 e4 hV1 hV2 hmono k0 k1
    go_wp2_with fail
    refine (HF1.out w2 (HA.out.on B2.out)).mono ?_
    rintro e w3 ⟨rfl, hb⟩
    have B3 := Lib.hid (bstep B2.out hb)
    clear c0 c1 c2 c3
    clear hb
    go_wp2_with fail
    refine (HF2.out w3 (HA.out.on B3.out)).mono ?_
    rintro e w4 ⟨rfl, hb⟩
    have B4 := Lib.hid (bstep B3.out hb)
    clear hb
    go_wp2_with fail
    refine (law_awake w4).mono ?_
    rintro e w5 ⟨rfl, hb⟩
    have B5 := Lib.hid (bstep B4.out hb)
    clear hb
    go_wp2_with fail
    go_ret
    exact ⟨rfl, B5.out⟩
  have j1 := j0
  clear j0
  rcases Int.lt_or_le q.2 y with j0 | j0
  · obtain ⟨e1, e2⟩ := bckE_out HZ.out HC.out (Or.inr j0)
    have HB1' := HBw.out y
    rw [e1, e2, hN] at HB1'
    replace HB1' := Lib.hid HB1'
    have d0 : decide (m.2 ≤ y) = true := decide_eq_true (by omega)
    have d1 : decide (y ≤ q.2) = false := decide_eq_false (by omega)
    clear e1 e2 j0 j1
    go_wp2_with fail
    refine (HB1'.out w1 (HA.out.on B1.out)).mono ?_
    rintro e w2 ⟨rfl, hb⟩
    have B2 := Lib.hid (bstep B1.out hb)
    clear hb
    obtain ⟨⟨c0, c1⟩, c2, c3⟩ := HMc.out _ B2.out
    rcases Int.lt_or_le m.1 a with k0 | k0
    rotate_left
    · have t0 : decide (a ≤ m.1) = true := decide_eq_true k0
      clear k0
      go_wp2_with fail
      refine (law_awake w2).mono ?_
      rintro e w3 ⟨rfl, hb⟩
      have B3 := Lib.hid (bstep B2.out hb)
      clear hb
      go_wp2_with fail
      go_ret
      exact ⟨rfl, B3.out⟩
    have t0 : decide (a ≤ m.1) = false := decide_eq_false (by omega)
    rcases Int.lt_or_le q.1 a with k1 | k1
    · have t1 : decide (q.1 < a) = true := decide_eq_true k1
      clear k0 k1
      go_wp2_with fail
      refine (law_awake w2).mono ?_
      rintro e w3 ⟨rfl, hb⟩
      have B3 := Lib.hid (bstep B2.out hb)
      clear hb
      go_wp2_with fail
      go_ret
      exact ⟨rfl, B3.out⟩
    have t1 : decide (q.1 < a) = false := decide_eq_false (by omega)
    have wa : IntKind.i64.wrap (a - 1) = a - 1 := wrap_id (by omega)
    obtain ⟨a', ha'⟩ : ∃ a', a - 1 = a' := ⟨_, rfl⟩
    rw [ha'] at wa
    obtain ⟨e1, e2⟩ := fwdE_in HZ.out HC.out (show m.1 ≤ a by omega) k1
    obtain ⟨e3, e4⟩ := fwdE_in HZ.out HC.out (show m.1 ≤ a' by omega) (show a' ≤ q.1 by omega)
    have hmono := sound_val HZ.out HC.out (show m.1 ≤ a' by omega) (show a' ≤ a by omega)
    have HF1 := HFw.out a
    have HF2 := HFw.out a'
    rw [e1, e2, hN] at HF1
    rw [e3, e4, hN] at HF2
    obtain ⟨V1, hV1⟩ : ∃ V, valA L a = V := ⟨_, rfl⟩
    obtain ⟨V2, hV2⟩ : ∃ V, valA L a' = V := ⟨_, rfl⟩
    rw [hV1] at HF1 hmono
    rw [hV2] at HF2 hmono
    replace HF1 := Lib.hid HF1
    replace HF2 := Lib.hid HF2
    have t2 : decide (V2 ≤ V1) = true := decide_eq_true hmono
    clear e1 e2 e3 e4 hV1 hV2 hmono k0 k1
    go_wp2_with fail
    refine (HF1.out w2 (HA.out.on B2.out)).mono ?_
    rintro e w3 ⟨rfl, hb⟩
    have B3 := Lib.hid (bstep B2.out hb)
    clear c0 c1 c2 c3
    clear hb
    go_wp2_with fail
    refine (HF2.out w3 (HA.out.on B3.out)).mono ?_
    rintro e w4 ⟨rfl, hb⟩
    have B4 := Lib.hid (bstep B3.out hb)
    clear hb
    go_wp2_with fail
    refine (law_awake w4).mono ?_
    rintro e w5 ⟨rfl, hb⟩
    have B5 := Lib.hid (bstep B4.out hb)
    clear hb
    go_wp2_with fail
    go_ret
    exact ⟨rfl, B5.out⟩
  obtain ⟨e1, e2⟩ := bckE_in HZ.out HC.out j1 j0
  obtain ⟨⟨x0, x1⟩, hiff⟩ := back_iff HZ.out HC.out j1 j0
  have HB1' := HBw.out y
  rw [e1, e2, hN] at HB1'
  obtain ⟨x, hx⟩ : ∃ x, valB L y = x := ⟨_, rfl⟩
  rw [hx] at HB1' x0 x1 hiff
  replace HB1' := Lib.hid HB1'
  have d0 : decide (m.2 ≤ y) = true := decide_eq_true j1
  have d1 : decide (y ≤ q.2) = true := decide_eq_true j0
  obtain ⟨e3, e4⟩ := fwdE_in HZ.out HC.out x0 x1
  have hge := (hiff x x0).mpr (Int.le_refl _)
  have HF1 := HFw.out x
  rw [e3, e4, hN] at HF1
  obtain ⟨V, hV⟩ : ∃ V, valA L x = V := ⟨_, rfl⟩
  rw [hV] at HF1 hge
  replace HF1 := Lib.hid HF1
  have d2 : decide (V < y) = false := decide_eq_false (by omega)
  have d3 : decide (x < m.1) = false := decide_eq_false (by omega)
  have d4 : decide (q.1 < x) = false := decide_eq_false (by omega)
  have HIff := Lib.hid hiff
  clear e1 e2 e3 e4 hx hV hge hiff j0 j1
  go_wp2_with fail
  refine (HB1'.out w1 (HA.out.on B1.out)).mono ?_
  rintro e w2 ⟨rfl, hb⟩
  have B2 := Lib.hid (bstep B1.out hb)
  clear hb
  obtain ⟨⟨c0, c1⟩, c2, c3⟩ := HMc.out _ B2.out
  go_wp2_with fail
  refine (HF1.out w2 (HA.out.on B2.out)).mono ?_
  rintro e w3 ⟨rfl, hb⟩
  have B3 := Lib.hid (bstep B2.out hb)
  clear c0 c1 c2 c3
  clear hb
  obtain ⟨⟨c0, c1⟩, c2, c3⟩ := HMc.out _ B3.out
  rcases Int.lt_or_le m.1 x with k2 | k2
  rotate_left
  · have d5 : decide (m.1 < x) = false := decide_eq_false (by omega)
    clear k2
    rcases Int.lt_or_le m.1 a with k0 | k0
    rotate_left
    · have t0 : decide (a ≤ m.1) = true := decide_eq_true k0
      clear k0
      go_wp2_with fail
      refine (law_awake w3).mono ?_
      rintro e w4 ⟨rfl, hb⟩
      have B4 := Lib.hid (bstep B3.out hb)
      clear hb
      go_wp2_with fail
      go_ret
      exact ⟨rfl, B4.out⟩
    have t0 : decide (a ≤ m.1) = false := decide_eq_false (by omega)
    rcases Int.lt_or_le q.1 a with k1 | k1
    · have t1 : decide (q.1 < a) = true := decide_eq_true k1
      clear k0 k1
      go_wp2_with fail
      refine (law_awake w3).mono ?_
      rintro e w4 ⟨rfl, hb⟩
      have B4 := Lib.hid (bstep B3.out hb)
      clear hb
      go_wp2_with fail
      go_ret
      exact ⟨rfl, B4.out⟩
    have t1 : decide (q.1 < a) = false := decide_eq_false (by omega)
    have wa : IntKind.i64.wrap (a - 1) = a - 1 := wrap_id (by omega)
    obtain ⟨a', ha'⟩ : ∃ a', a - 1 = a' := ⟨_, rfl⟩
    rw [ha'] at wa
    obtain ⟨e1, e2⟩ := fwdE_in HZ.out HC.out (show m.1 ≤ a by omega) k1
    obtain ⟨e3, e4⟩ := fwdE_in HZ.out HC.out (show m.1 ≤ a' by omega) (show a' ≤ q.1 by omega)
    have hmono := sound_val HZ.out HC.out (show m.1 ≤ a' by omega) (show a' ≤ a by omega)
    have HF1 := HFw.out a
    have HF2 := HFw.out a'
    rw [e1, e2, hN] at HF1
    rw [e3, e4, hN] at HF2
    obtain ⟨V1, hV1⟩ : ∃ V, valA L a = V := ⟨_, rfl⟩
    obtain ⟨V2, hV2⟩ : ∃ V, valA L a' = V := ⟨_, rfl⟩
    rw [hV1] at HF1 hmono
    rw [hV2] at HF2 hmono
    replace HF1 := Lib.hid HF1
    replace HF2 := Lib.hid HF2
    have t2 : decide (V2 ≤ V1) = true := decide_eq_true hmono
    clear e1 e2 e3 e4 hV1 hV2 hmono k0 k1
    go_wp2_with fail
    refine (HF1.out w3 (HA.out.on B3.out)).mono ?_
    rintro e w4 ⟨rfl, hb⟩
    have B4 := Lib.hid (bstep B3.out hb)
    clear c0 c1 c2 c3
    clear hb
    go_wp2_with fail
    refine (HF2.out w4 (HA.out.on B4.out)).mono ?_
    rintro e w5 ⟨rfl, hb⟩
    have B5 := Lib.hid (bstep B4.out hb)
    clear hb
    go_wp2_with fail
    refine (law_awake w5).mono ?_
    rintro e w6 ⟨rfl, hb⟩
    have B6 := Lib.hid (bstep B5.out hb)
    clear hb
    go_wp2_with fail
    go_ret
    exact ⟨rfl, B6.out⟩
  have d5 : decide (m.1 < x) = true := decide_eq_true k2
  have wx : IntKind.i64.wrap (x - 1) = x - 1 := wrap_id (by omega)
  obtain ⟨x', hx'⟩ : ∃ x', x - 1 = x' := ⟨_, rfl⟩
  rw [hx'] at wx
  obtain ⟨e1, e2⟩ := fwdE_in HZ.out HC.out (show m.1 ≤ x' by omega) (show x' ≤ q.1 by omega)
  have hlt : valA L x' < y := by
    rcases Int.lt_or_le (valA L x') y with h | h
    · exact h
    · have := (HIff.out x' (by omega)).mp h; omega
  have HF3 := HFw.out x'
  rw [e1, e2, hN] at HF3
  obtain ⟨V3, hV3⟩ : ∃ V, valA L x' = V := ⟨_, rfl⟩
  rw [hV3] at HF3 hlt
  replace HF3 := Lib.hid HF3
  have d6 : decide (y ≤ V3) = false := decide_eq_false (by omega)
  clear e1 e2 hV3 hlt k2
  go_wp2_with fail
  refine (HF3.out w3 (HA.out.on B3.out)).mono ?_
  rintro e w4 ⟨rfl, hb⟩
  have B4 := Lib.hid (bstep B3.out hb)
  clear c0 c1 c2 c3
  clear hb
  obtain ⟨⟨c0, c1⟩, c2, c3⟩ := HMc.out _ B4.out
  rcases Int.lt_or_le m.1 a with k0 | k0
  rotate_left
  · have t0 : decide (a ≤ m.1) = true := decide_eq_true k0
    clear k0
    go_wp2_with fail
    refine (law_awake w4).mono ?_
    rintro e w5 ⟨rfl, hb⟩
    have B5 := Lib.hid (bstep B4.out hb)
    clear hb
    go_wp2_with fail
    go_ret
    exact ⟨rfl, B5.out⟩
  have t0 : decide (a ≤ m.1) = false := decide_eq_false (by omega)
  rcases Int.lt_or_le q.1 a with k1 | k1
  · have t1 : decide (q.1 < a) = true := decide_eq_true k1
    clear k0 k1
    go_wp2_with fail
    refine (law_awake w4).mono ?_
    rintro e w5 ⟨rfl, hb⟩
    have B5 := Lib.hid (bstep B4.out hb)
    clear hb
    go_wp2_with fail
    go_ret
    exact ⟨rfl, B5.out⟩
  have t1 : decide (q.1 < a) = false := decide_eq_false (by omega)
  have wa : IntKind.i64.wrap (a - 1) = a - 1 := wrap_id (by omega)
  obtain ⟨a', ha'⟩ : ∃ a', a - 1 = a' := ⟨_, rfl⟩
  rw [ha'] at wa
  obtain ⟨e1, e2⟩ := fwdE_in HZ.out HC.out (show m.1 ≤ a by omega) k1
  obtain ⟨e3, e4⟩ := fwdE_in HZ.out HC.out (show m.1 ≤ a' by omega) (show a' ≤ q.1 by omega)
  have hmono := sound_val HZ.out HC.out (show m.1 ≤ a' by omega) (show a' ≤ a by omega)
  have HF1 := HFw.out a
  have HF2 := HFw.out a'
  rw [e1, e2, hN] at HF1
  rw [e3, e4, hN] at HF2
  obtain ⟨V1, hV1⟩ : ∃ V, valA L a = V := ⟨_, rfl⟩
  obtain ⟨V2, hV2⟩ : ∃ V, valA L a' = V := ⟨_, rfl⟩
  rw [hV1] at HF1 hmono
  rw [hV2] at HF2 hmono
  replace HF1 := Lib.hid HF1
  replace HF2 := Lib.hid HF2
  have t2 : decide (V2 ≤ V1) = true := decide_eq_true hmono
  clear e1 e2 e3 e4 hV1 hV2 hmono k0 k1
  go_wp2_with fail
  refine (HF1.out w4 (HA.out.on B4.out)).mono ?_
  rintro e w5 ⟨rfl, hb⟩
  have B5 := Lib.hid (bstep B4.out hb)
  clear c0 c1 c2 c3
  clear hb
  go_wp2_with fail
  refine (HF2.out w5 (HA.out.on B5.out)).mono ?_
  rintro e w6 ⟨rfl, hb⟩
  have B6 := Lib.hid (bstep B5.out hb)
  clear hb
  go_wp2_with fail
  refine (law_awake w6).mono ?_
  rintro e w7 ⟨rfl, hb⟩
  have B7 := Lib.hid (bstep B6.out hb)
  clear hb
  go_wp2_with fail
  go_ret
  exact ⟨rfl, B7.out⟩

set_option maxHeartbeats 6400000 in
theorem walk_AlignLine (w : World) (A : Option Addr) (c : Nat) (L : List Mk) (ha : Mks w A L) (hcap : L.length ≤ c) (hm : L.length ≤ 9223372036854775807) (a k : Int) :
    Calls Try.prog 9 #[.slice A L.length c, .int .i64 a, .int .i64 k] w fun e w' => e = .returned (.bool true) ∧ Below w.heap.size w w' := by
  have HA := Lib.hid ha
  have HCap := Lib.hid hcap
  clear ha hcap
  by_cases hf : L.length ≤ 100
  rotate_left
  · have hfd : decide (L.length ≤ 100) = false := decide_eq_false hf
    clear hf
    go_enter Try.func9, Try.ntmps9
    go_wp2_with fail
    refine (law_few L A c _ hfd).mono ?_
    rintro e w' ⟨rfl, rfl⟩
    go_wp2_with fail
    refine (law_awake _).mono ?_
    rintro e w1 ⟨rfl, hb⟩
    have B1 := Lib.hid hb
    clear hb
    go_wp2_with fail
    go_ret
    exact ⟨rfl, B1.out⟩
  have hfd : decide (L.length ≤ 100) = true := decide_eq_true hf
  clear hf
  by_cases hz : chkA L = 0
  rotate_left
  · obtain ⟨z1, z2⟩ := ne_tests hz
    have HCk := Lib.hid fun (W : World) (h : Mks W A L) => align_Check L A c W h hm HCap.out
    obtain ⟨E, hE⟩ : ∃ E, chkA L = E := ⟨_, rfl⟩
    rw [hE] at HCk z1 z2
    clear hE hz
    go_enter Try.func9, Try.ntmps9
    go_wp2_with fail
    refine (law_few L A c _ hfd).mono ?_
    rintro e w' ⟨rfl, rfl⟩
    go_wp2_with fail
    refine (HCk.out w HA.out).mono ?_
    rintro e w1 ⟨rfl, hb⟩
    have B1 := Lib.hid hb
    clear hb
    go_wp2_with fail
    refine (law_awake w1).mono ?_
    rintro e w2 ⟨rfl, hb⟩
    have B2 := Lib.hid (bstep B1.out hb)
    clear hb
    go_wp2_with fail
    go_ret
    exact ⟨rfl, B2.out⟩
  have HZ := Lib.hid hz
  obtain ⟨m, q, N, hac⟩ := Ac.of hz
  have HC := Lib.hid hac
  have HCk := Lib.hid fun (W : World) (h : Mks W A L) => align_Check L A c W h hm HCap.out
  rw [hz] at HCk
  clear hz
  have hN := hac.len
  have hN1 := hac.two
  have hN2 := hac.few
  rcases Int.lt_or_le k 0 with k0 | k0
  · have t0 : decide (k < 0) = true := decide_eq_true k0
    clear k0 hac hN
    go_enter Try.func9, Try.ntmps9
    go_wp2_with fail
    refine (law_few L A c _ hfd).mono ?_
    rintro e w' ⟨rfl, rfl⟩
    go_wp2_with fail
    refine (HCk.out w HA.out).mono ?_
    rintro e w1 ⟨rfl, hb⟩
    have B1 := Lib.hid hb
    clear hb
    go_wp2_with fail
    refine (law_awake w1).mono ?_
    rintro e w2 ⟨rfl, hb⟩
    have B2 := Lib.hid (bstep B1.out hb)
    clear hb
    go_wp2_with fail
    go_ret
    exact ⟨rfl, B2.out⟩
  have t0 : decide (k < 0) = false := decide_eq_false (by omega)
  obtain ⟨K, rfl⟩ := Int.eq_ofNat_of_zero_le k0
  rcases Nat.lt_or_ge K L.length with k1 | k1
  rotate_left
  · have t1 : decide ((L.length : Int) ≤ (K : Int)) = true := decide_eq_true (by omega)
    have t1n : decide (L.length ≤ K) = true := decide_eq_true k1
    clear k0 k1 hac hN
    go_enter Try.func9, Try.ntmps9
    go_wp2_with fail
    refine (law_few L A c _ hfd).mono ?_
    rintro e w' ⟨rfl, rfl⟩
    go_wp2_with fail
    refine (HCk.out w HA.out).mono ?_
    rintro e w1 ⟨rfl, hb⟩
    have B1 := Lib.hid hb
    clear hb
    go_wp2_with fail
    refine (law_awake w1).mono ?_
    rintro e w2 ⟨rfl, hb⟩
    have B2 := Lib.hid (bstep B1.out hb)
    clear hb
    go_wp2_with fail
    go_ret
    exact ⟨rfl, B2.out⟩
  have t1 : decide ((L.length : Int) ≤ (K : Int)) = false := decide_eq_false (by omega)
  have t1n : decide (L.length ≤ K) = false := decide_eq_false (by omega)
  obtain ⟨p, hp⟩ := get_lt k1
  obtain ⟨⟨p0, p1⟩, hpv⟩ := hac.at_mark HZ.out hp
  have HP := Lib.hid hp
  obtain ⟨u0, u1, u2⟩ := thin_same HZ.out
  obtain ⟨T, hT⟩ : ∃ T, thnV L = T := ⟨_, rfl⟩
  have hTl := thnV_len L
  have H2 := Lib.hid fun (W : World) (h : Mks W A L) => align_Thin L A c W h hm HCap.out
  rw [hT] at u0 u1 u2 hTl H2
  rw [HZ.out] at H2
  have hTm : T.length ≤ 9223372036854775807 := by omega
  have H3 := Lib.hid fun (A : Option Addr) (c : Nat) (W : World) (h : Mks W A T) (hc : T.length ≤ c) => align_Thin T A c W h hTm hc
  rw [u1, u0] at H3
  obtain ⟨V, hV⟩ : ∃ V, fwdV L a = V := ⟨_, rfl⟩
  obtain ⟨E, hE⟩ : ∃ E, fwdE L a = E := ⟨_, rfl⟩
  have H4 := Lib.hid fun (W : World) (h : Mks W A L) => align_Forward L A c a W h hm HCap.out
  have H5 := Lib.hid fun (A : Option Addr) (c : Nat) (W : World) (h : Mks W A T) (hc : T.length ≤ c) => align_Forward T A c a W h hTm hc
  rw [(u2 a).1, (u2 a).2, hV, hE] at H5
  rw [hV, hE] at H4
  have H1 := Lib.hid fun (W : World) (h : Mks W A L) => align_Forward L A c p.1 W h hm HCap.out
  obtain ⟨f1, f2⟩ := fwdE_in HZ.out hac p0 p1
  rw [f1, f2, hpv] at H1
  obtain ⟨n, hn⟩ : ∃ n, n = T.length := ⟨_, rfl⟩
  have HN := Lib.hid hn
  have HSame := Lib.hid fun (A B : Option Addr) (c d : Nat) (W : World) (h : Mks W A T) (h2 : Mks W B T) => ref_Same T T A B c d n n hn hn W h h2 (by omega) (by omega)
  unfold ThnR at H2 H3
  rw [← hn] at H2 H3 H5
  rw [decide_eq_true (rfl : T = T)] at HSame
  have t2 : decide ((L.length : Int) < (n : Int)) = false := decide_eq_false (by rw [hn]; omega)
  have t2n : decide (L.length < n) = false := decide_eq_false (by rw [hn]; omega)
  have i2 : (K : Int) < (L.length : Int) := by omega
  have i3 : (0 : Int) ≤ (K : Int) := by omega
  have q1 : (p.2 != p.2) = false := by simp
  clear hp p0 p1 hpv u0 u1 u2 hT hTl hTm hV hE f1 f2 hn hac hN k0
  go_enter Try.func9, Try.ntmps9
  go_wp2_with fail
  refine (law_few L A c _ hfd).mono ?_
  rintro e w' ⟨rfl, rfl⟩
  go_wp2_with fail
  refine (HCk.out w HA.out).mono ?_
  rintro e w1 ⟨rfl, hb⟩
  have B1 := Lib.hid hb
  clear hb
  obtain ⟨g, off, rfl, hg⟩ := rd_ne (HA.out.on B1.out) (show 0 < L.length by omega)
  obtain ⟨c0, c1⟩ := at_k (HA.out.on B1.out) HP.out
  go_wp2_with fail
  refine (H1.out w1 (HA.out.on B1.out)).mono ?_
  rintro e w2 ⟨rfl, hb⟩
  have B2 := Lib.hid (bstep B1.out hb)
  clear c0 c1
  clear hb
  go_wp2_with fail
  refine (H2.out w2 (HA.out.on B2.out)).mono ?_
  rintro e w3 ⟨A1, c1, rfl, hc1, hr1, hb⟩
  have B3 := Lib.hid (bstep B2.out hb)
  have R1 := Lib.hid hr1
  have C1 := Lib.hid hc1
  clear hr1 hc1
  clear hb
  go_wp2_with fail
  refine (H3.out A1 c1 w3 R1.out C1.out).mono ?_
  rintro e w4 ⟨A2, c2, rfl, -, hr2, hb⟩
  have B4 := Lib.hid (bstep B3.out hb)
  replace R1 := Lib.hid (R1.out.on hb)
  have R2 := Lib.hid hr2
  clear hr2
  clear hb
  obtain ⟨c0, c1'⟩ := at_k (HA.out.on B4.out) HP.out
  go_wp2_with fail
  refine (HSame.out A1 A2 c1 c2 w4 R1.out R2.out).mono ?_
  rintro e w5 ⟨rfl, hb⟩
  have B5 := Lib.hid (bstep B4.out hb)
  replace R1 := Lib.hid (R1.out.on hb)
  replace R2 := Lib.hid (R2.out.on hb)
  clear c0 c1'
  clear hb
  go_wp2_with fail
  refine (H4.out w5 (HA.out.on B5.out)).mono ?_
  rintro e w6 ⟨rfl, hb⟩
  have B6 := Lib.hid (bstep B5.out hb)
  replace R1 := Lib.hid (R1.out.on hb)
  clear hb
  go_wp2_with fail
  refine (H5.out A1 c1 w6 R1.out C1.out).mono ?_
  rintro e w7 ⟨rfl, hb⟩
  have B7 := Lib.hid (bstep B6.out hb)
  replace R1 := Lib.hid (R1.out.on hb)
  clear hb
  go_wp2_with fail
  refine (law_awake w7).mono ?_
  rintro e w8 ⟨rfl, hb⟩
  have B8 := Lib.hid (bstep B7.out hb)
  clear hb
  go_wp2_with fail
  go_ret
  exact ⟨rfl, B8.out⟩
#print axioms walk_AlignInverse
#print axioms walk_AlignLine
end Go.Proofs.Ytkbnhmgladkojaa.Align
