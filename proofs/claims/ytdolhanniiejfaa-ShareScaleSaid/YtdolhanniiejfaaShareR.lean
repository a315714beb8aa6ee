/- The walk of ShareScale. -/
import Derived.Test.YtdolhanniiejfaaShareO
namespace Go.Proofs.Ytdolhanniiejfaa.Share
open Go.ChangeShapes Go.WideShapes Go.RowKit Go.Lib Go.Proofs.Ytdolhanniiejfaa.Mem
set_option linter.unusedVariables false
set_option maxRecDepth 100000

section
variable {T n : Nat} {w w' : Nat → Nat}
theorem tw_congr (h : ∀ i, i < n → w i = w' i) : Share.tw w n = Share.tw w' n := sm_congr h
theorem quo_congr (h : ∀ i, i < n → w i = w' i) {i : Nat} (hi : i < n) : quo T w n i = quo T w' n i := by unfold quo; rw [h i hi, tw_congr h]
theorem rst_congr (h : ∀ i, i < n → w i = w' i) {i : Nat} (hi : i < n) : rst T w n i = rst T w' n i := by unfold rst; rw [h i hi, tw_congr h]
theorem part_congr (h : ∀ i, i < n → w i = w' i) {i : Nat} (hi : i < n) : part T w n i = part T w' n i := by
  have h1 : lft T w n = lft T w' n := by unfold lft; rw [sm_congr fun j hj => quo_congr h hj]
  have h2 : rank (rst T w n) n i = rank (rst T w' n) n i := cn_congr fun j hj => by unfold bt; rw [rst_congr h hj, rst_congr h hi]
  unfold part
  rw [tw_congr h, quo_congr h hi, h1, h2]
theorem bnd_congr (h : ∀ i, i < n → w i = w' i) {i : Nat} (hi : i < n) : bnd T w n i = bnd T w' n i := by
  unfold bnd
  rw [tw_congr h, sm_congr (n := i + 1) fun j hj => h j (by omega)]
end
/-- All weights multiplied. -/
def mulL (ws : List Int) (m : Int) : List Int := ws.map fun z => z * m
theorem mulL_len (ws : List Int) (m : Int) : (mulL ws m).length = ws.length := by simp [mulL]
theorem mulL_at {ws : List Int} {m : Int} {k : Nat} {z : Int} (h : ws[k]? = some z) : (mulL ws m)[k]? = some (z * m) := by
  unfold mulL; rw [List.getElem?_map, h]; rfl
theorem mulL_take {ws : List Int} {m : Int} {k : Nat} {z : Int} (h : ws[k]? = some z) : mulL (ws.take (k + 1)) m = mulL (ws.take k) m ++ [z * m] := by
  unfold mulL; rw [take_snoc_of h, List.map_append]; rfl
theorem mul_bd {z m a : Int} (h0 : 0 ≤ z) (h1 : z ≤ a) (h2 : 1 ≤ m) (h3 : m ≤ 1000) : 0 ≤ z * m ∧ z * m ≤ a * 1000 := by
  refine ⟨Int.mul_nonneg h0 (by omega), ?_⟩
  have e1 : z * m ≤ z * 1000 := Int.mul_le_mul_of_nonneg_left h3 h0
  have e2 : z * 1000 ≤ a * 1000 := by omega
  omega
theorem sumK_mul (ws : List Int) (m : Int) : ∀ k, k ≤ ws.length → sumK (mulL ws m) k = sumK ws k * m
  | 0, _ => by rw [sumK_zero, sumK_zero, Int.zero_mul]
  | k + 1, h => by
    obtain ⟨z, hz⟩ := get_lt (show k < ws.length by omega)
    rw [sumK_succ (mulL_at hz), sumK_succ hz, sumK_mul ws m k (by omega), Int.add_mul]
structure ScOk (ws : List Int) (m : Int) : Prop where
  len : ws.length ≤ 40
  all : ∀ z ∈ ws, 0 ≤ z ∧ z ≤ 28147497671
  m1 : 1 ≤ m
  m2 : m ≤ 1000
section
variable {ws : List Int} {m t : Int}
theorem ScOk.sum (h : ScOk ws m) : ∀ k, k ≤ ws.length → 0 ≤ sumK ws k ∧ sumK ws k ≤ 28147497671 * (k : Int)
  | 0, _ => by rw [sumK_zero]; omega
  | k + 1, hk => by
    obtain ⟨z, hz⟩ := get_lt (show k < ws.length by omega)
    have h1 := h.sum k (by omega)
    have h2 := h.all z (List.mem_of_getElem? hz)
    rw [sumK_succ hz]; omega
theorem ScOk.total (h : ScOk ws m) : 0 ≤ sumK ws ws.length ∧ sumK ws ws.length ≤ 1125899906840 ∧ 0 ≤ sumK ws ws.length * m ∧ sumK ws ws.length * m ≤ 1125899906840000 := by
  have h1 := h.sum ws.length (Nat.le_refl _)
  have h2 := h.len
  have h3 := mul_bd (a := 1125899906840) h1.1 (by omega) h.m1 h.m2
  omega
theorem ScOk.err (h : ScOk ws m) : errS t (mulL ws m) = errS t ws := by
  have hmx : mx = 1125899906842624 := rfl
  cases hi : inW t with
  | false => rw [errS_t hi, errS_t hi]
  | true =>
    rcases Nat.eq_zero_or_pos ws.length with h0 | h0
    · rw [errS_0 hi h0, errS_0 hi (by rw [mulL_len]; exact h0)]
    · have hl := h.len
      have ha : ∀ z ∈ ws, 0 ≤ z ∧ z ≤ mx := fun z hz => by have := h.all z hz; omega
      have hb : ∀ z ∈ mulL ws m, 0 ≤ z ∧ z ≤ mx := fun z hz => by
        obtain ⟨y, hy, rfl⟩ := List.mem_map.mp hz
        have h1 := h.all y hy
        have := mul_bd h1.1 h1.2 h.m1 h.m2
        omega
      have ht := h.total
      rw [errS_s hi h0 (by omega) ha, errS_s hi (by rw [mulL_len]; exact h0) (by rw [mulL_len]; omega) hb, mulL_len, sumK_mul _ _ _ (Nat.le_refl _), if_neg (show ¬ mx < sumK ws ws.length * m by omega), if_neg (show ¬ mx < sumK ws ws.length by omega)]
      have hz : sumK ws ws.length * m = 0 ↔ sumK ws ws.length = 0 := by
        rw [Int.mul_eq_zero]
        have := h.m1
        omega
      simp only [hz]
theorem ScOk.wf (h : ScOk ws m) : ∀ i, i < ws.length → Share.wf (mulL ws m) i = m.toNat * Share.wf ws i := by
  intro i hi
  obtain ⟨z, hz⟩ := get_lt hi
  have h0 := h.all z (List.mem_of_getElem? hz)
  have h1 := wf_at hz h0.1
  have h2 := wf_at (mulL_at (m := m) hz) (Int.mul_nonneg h0.1 (by have := h.m1; omega))
  have h3 : (m.toNat : Int) = m := by have := h.m1; omega
  have : (Share.wf (mulL ws m) i : Int) = ((m.toNat * Share.wf ws i : Nat) : Int) := by
    rw [h2, Int.natCast_mul, h1, h3, Int.mul_comm]
  omega
theorem ScOk.split (h : ScOk ws m) : splL t (mulL ws m) = splL t ws := by
  unfold splL
  rw [h.err]
  split
  · unfold partsL
    rw [mulL_len]
    refine List.map_congr_left fun i hi => ?_
    rw [part_congr h.wf (List.mem_range.mp hi), part_scale (by have := h.m1; omega)]
  · rfl
theorem ScOk.bounds (h : ScOk ws m) : bouL t (mulL ws m) = bouL t ws := by
  unfold bouL
  rw [h.err]
  split
  · unfold bndsL
    rw [mulL_len]
    refine List.map_congr_left fun i hi => ?_
    rw [bnd_congr h.wf (List.mem_range.mp hi), bnd_scale (by have := h.m1; omega)]
  · rfl
end

set_option maxHeartbeats 6400000 in
theorem walk_ShareScale (w : World) (t : Int) (B : Option Addr) (n d : Nat) (ws : List Int) (k : InInts .i64 w B n d ws) (m : Int) :
    Calls Try.prog 8 #[.int .i64 t, .slice B n d, .int .i64 m] w fun e w' => e = .returned (.bool true) ∧ Below w.heap.size w w' := by
  obtain ⟨kcl, kn, kl⟩ := in_cl k
  clear k
  by_cases hbig : 40 < n ∨ m < 1 ∨ 1000 < m
  · clear kcl kn
    by_cases h1 : 40 < n
    · have i1 : (40 : Int) < (n : Int) := by omega
      clear hbig
      go_enter Try.func8, Try.ntmps8
      go_wp2_with fail
      refine (awake_true _).mono ?_
      rintro e w1 ⟨rfl, hb⟩
      have HB := Lib.hid hb
      clear hb
      go_wp2_with fail
      go_ret
      exact ⟨rfl, HB.out⟩
    · have i1 : ¬ (40 : Int) < (n : Int) := by omega
      by_cases h2 : m < 1
      · clear hbig
        go_enter Try.func8, Try.ntmps8
        go_wp2_with fail
        refine (awake_true _).mono ?_
        rintro e w1 ⟨rfl, hb⟩
        have HB := Lib.hid hb
        clear hb
        go_wp2_with fail
        go_ret
        exact ⟨rfl, HB.out⟩
      · have h3 : 1000 < m := by omega
        clear hbig
        go_enter Try.func8, Try.ntmps8
        go_wp2_with fail
        refine (awake_true _).mono ?_
        rintro e w1 ⟨rfl, hb⟩
        have HB := Lib.hid hb
        clear hb
        go_wp2_with fail
        go_ret
        exact ⟨rfl, HB.out⟩
  · have HA := Lib.hid kcl
    have HN := Lib.hid kn
    have i1 : ¬ (40 : Int) < (n : Int) := by omega
    have i2 : ¬ 40 < n := by omega
    have i3 : ¬ m < 1 := by omega
    have i4 : ¬ 1000 < m := by omega
    have HM := Lib.hid (show n ≤ 40 ∧ 1 ≤ m ∧ m ≤ 1000 by omega)
    have HS1 := Lib.hid (fun W (hW : Below w.heap.size w W) => split_n t ws n kn B d W (kcl.on hW) kl)
    have HB1 := Lib.hid (fun W (hW : Below w.heap.size w W) => bounds_n t ws n kn B d W (kcl.on hW) kl)
    clear kcl kn hbig
    go_enter Try.func8, Try.ntmps8
    go_wp2_with fail
    go_loopw [7, 8, 9] (fun v s x wr => ∃ (k c' : Nat) (A' : Option Addr) (y : Int), v = .slice A' k c' ∧ s = .int .i64 y ∧ x = .int .i64 (k : Int) ∧ k ≤ n ∧ y = sumK ws k * m ∧ 0 ≤ y ∧ y ≤ 28147497671000 * (k : Int) ∧ (∀ (j : Nat) z, j < k → ws[j]? = some z → 0 ≤ z ∧ z ≤ 28147497671) ∧ Own eI 3 w.heap.size wr (.slice A' k c') (mulL (ws.take k) m) ∧ Below w.heap.size w wr) (fun _ _ x _ => n - (RowKit.intOf x).toNat)
    case atStart => exact ⟨0, 0, none, 0, rfl, rfl, rfl, Nat.zero_le _, by rw [sumK_zero, Int.zero_mul], by omega, by omega, fun j z h => by omega, Own.nil _ _ _ _, Below.refl _ _⟩
    case round =>
      obtain ⟨k, c', A', y, rfl, rfl, rfl, hk, hy, hy0, hy1, hall, hown, hbel⟩ := hrel
      have HO := Lib.hid hown
      have HB := Lib.hid hbel
      have HY := Lib.hid hy
      have HALL := Lib.hid hall
      have hM := HM.out
      clear hown hbel hy hall
      rcases Nat.lt_or_ge k n with hlt | hge
      · obtain ⟨z, hz⟩ := get_lt (L := ws) (k := k) (by rw [HN.out]; exact hlt)
        obtain ⟨b, off, hA, hb, hcell⟩ := (HA.out.on HB.out) k z hz
        obtain rfl := hA
        have HZ := Lib.hid hz
        have j1 : (k : Int) < (n : Int) := by omega
        have j2 : (0 : Int) ≤ (k : Int) := by omega
        have j3 : k < n := hlt
        have hk1 : IntKind.i64.wrap ((k : Int) + 1) = ((k + 1 : Nat) : Int) := wrap_id (by omega)
        clear hz
        by_cases hzr : 0 ≤ z ∧ z ≤ 28147497671
        · have f1 : ¬ z < 0 := by omega
          have f2 : ¬ 28147497671 < z := by omega
          have hbd := mul_bd hzr.1 hzr.2 hM.2.1 hM.2.2
          obtain ⟨p, hp⟩ : ∃ p, p = z * m := ⟨_, rfl⟩
          rw [← hp] at hbd
          obtain ⟨y', hy'⟩ : ∃ y', y' = y + p := ⟨_, rfl⟩
          have hw1 : IntKind.i64.wrap (z * m) = p := by rw [← hp, wrap_id (by omega)]
          have hw2 : IntKind.i64.wrap (y + p) = y' := by rw [wrap_id (by omega)]; omega
          have HX := Lib.hid (show 0 ≤ y' ∧ y' ≤ 28147497671000 * ((k + 1 : Nat) : Int) ∧ k + 1 ≤ n ∧ y' = y + p ∧ 0 ≤ z ∧ z ≤ 28147497671 by omega)
          have HP := Lib.hid hp
          clear hk hlt hy0 hy1 hbd hzr hp hy' hM
          go_wp2_with (at_builtin; refine append_int rfl _ _ rfl w.heap.size (.slice A' k c') (mulL (ws.take k) m) rfl (HO.out.alloc _) wr.heap.size 1 p rfl (by simp) (by have := HM.out; have := HX.out; rw [mulL_len, List.length_take]; omega) (Nat.le_trans HB.out.size (below_alloc _ _).size) ?_; intro v' w6 hown' hg' hat; refine Hid.out ?_)
          have HBA := Lib.hid (below_alloc wr (.cells #[.int .i64 p] 3))
          have HB6 : Hid (Below w.heap.size w w6) := HB.out.trans ((HBA.out.mono HB.out.size).trans (Own.below (HO.out.alloc _) hg' (Nat.le_trans HB.out.size HBA.out.size)))
          obtain ⟨A6, c6, rfl, -, -⟩ := hown'.inS.open_
          have e6 : (mulL (ws.take k) m ++ [p]).length = k + 1 := by rw [List.length_append, mulL_len, List.length_take, Nat.min_eq_left (by have := HX.out; have := HN.out; omega)]; rfl
          have e7 : mulL (ws.take k) m ++ [p] = mulL (ws.take (k + 1)) m := by rw [mulL_take HZ.out, HP.out]
          rw [e6, e7] at hown'
          rw [e6]
          have HO6 := Lib.hid hown'
          clear hown' hg' hat e6 e7 HBA
          refine Lib.hid ?_
          go_wp2_with fail
          go_roundw
          case rel => exact ⟨k + 1, c6, A6, y', rfl, rfl, rfl, HX.out.2.2.1, by rw [sumK_succ HZ.out, Int.add_mul, ← HY.out, ← HP.out]; exact HX.out.2.2.2.1, HX.out.1, HX.out.2.1, fun j u h1 h2 => by
            rcases Nat.lt_or_ge j k with h3 | h3
            · exact HALL.out j u h3 h2
            · obtain rfl : j = k := by omega
              rw [HZ.out] at h2; cases h2; exact HX.out.2.2.2.2, HO6.out, HB6.out⟩
          case measure =>
            have := HX.out
            simp [RowKit.intOf]; omega
        · by_cases f1 : z < 0
          · clear hk hlt hy0 hy1 hzr hM
            go_wp2_with fail
            refine (awake_true _).mono ?_
            rintro e w7 ⟨rfl, hb7⟩
            have HB7 := Lib.hid hb7
            clear hb7
            go_wp2_with fail
            go_ret
            exact ⟨rfl, bstep HB.out HB7.out⟩
          · have f2 : 28147497671 < z := by omega
            clear hk hlt hy0 hy1 hzr hM
            go_wp2_with fail
            refine (awake_true _).mono ?_
            rintro e w7 ⟨rfl, hb7⟩
            have HB7 := Lib.hid hb7
            clear hb7
            go_wp2_with fail
            go_ret
            exact ⟨rfl, bstep HB.out HB7.out⟩
      · obtain rfl : n = k := by omega
        have HSC : Hid (ScOk ws m) := ⟨by rw [HN.out]; exact hM.1, fun z hz => by
          obtain ⟨j, hj⟩ := List.mem_iff_getElem?.mp hz
          exact HALL.out j z (by rw [← HN.out]; exact lt_of_get hj) hj, hM.2.1, hM.2.2⟩
        have hown2 := HO.out
        rw [show ws.take n = ws by rw [← HN.out, List.take_length]] at hown2
        have HCM := Lib.hid (own_cl hown2)
        have HLM : Hid ((mulL ws m).length = n) := (mulL_len ws m).trans HN.out
        have HS2 := Lib.hid (fun W (hW : Below wr.heap.size wr W) => split_n t (mulL ws m) n HLM.out A' c' W (HCM.out.on hW) kl)
        have HB2 := Lib.hid (fun W (hW : Below wr.heap.size wr W) => bounds_n t (mulL ws m) n HLM.out A' c' W (HCM.out.on hW) kl)
        rw [HSC.out.err, HSC.out.split] at HS2
        rw [HSC.out.err, HSC.out.bounds] at HB2
        have hyt : y ≤ 1125899906842624 := by
          have := HSC.out.total
          have h5 := HY.out
          rw [← HN.out] at h5
          omega
        obtain ⟨P, hP⟩ : ∃ P, P = splL t ws := ⟨_, rfl⟩
        obtain ⟨Q, hQ⟩ : ∃ Q, Q = bouL t ws := ⟨_, rfl⟩
        obtain ⟨E, hE⟩ : ∃ E, E = errS t ws := ⟨_, rfl⟩
        rw [← hP, ← hE] at HS1 HS2
        rw [← hQ, ← hE] at HB1 HB2
        clear hk hge hy0 hy1 hM hown2 hP hQ hE
        go_wp2_with fail
        refine (HS1.out wr HB.out).mono ?_
        intro e w2 hr
        obtain ⟨A2, n2, c2, rfl, hn2, hl2, -, hc2, hb2⟩ := hr.open_
        have H2 := Lib.hid (show P.length = n2 ∧ n2 ≤ 9223372036854775807 from ⟨hn2, hl2⟩)
        have HC2 := Lib.hid hc2
        have HX2 := Lib.hid hb2
        clear hr hn2 hl2 hc2 hb2
        go_wp2_with fail
        refine (HS2.out w2 HX2.out).mono ?_
        intro e w3 hr
        obtain ⟨A3, n3, c3, rfl, hn3, hl3, -, hc3, hb3⟩ := hr.open_
        obtain rfl : n2 = n3 := H2.out.1.symm.trans hn3
        have HC3 := Lib.hid hc3
        have HX3 := Lib.hid hb3
        clear hr hn3 hl3 hc3 hb3
        go_wp2_with fail
        refine (HB1.out w3 (bstep HB.out (bstep HX2.out HX3.out))).mono ?_
        intro e w4 hr
        obtain ⟨A4, n4, c4, rfl, hn4, hl4, -, hc4, hb4⟩ := hr.open_
        have H4 := Lib.hid (show Q.length = n4 ∧ n4 ≤ 9223372036854775807 from ⟨hn4, hl4⟩)
        have HC4 := Lib.hid hc4
        have HX4 := Lib.hid hb4
        clear hr hn4 hl4 hc4 hb4
        go_wp2_with fail
        refine (HB2.out w4 (bstep (bstep HX2.out HX3.out) HX4.out)).mono ?_
        intro e w5 hr
        obtain ⟨A5, n5, c5, rfl, hn5, hl5, -, hc5, hb5⟩ := hr.open_
        obtain rfl : n4 = n5 := H4.out.1.symm.trans hn5
        have HC5 := Lib.hid hc5
        have HX5 := Lib.hid hb5
        clear hr hn5 hl5 hc5 hb5
        go_wp2_with fail
        refine (same_yes P n2 H2.out.1 A2 A3 c2 c3 w5 (HC2.out.on (bstep (bstep HX3.out HX4.out) HX5.out)) (HC3.out.on (bstep HX4.out HX5.out)) H2.out.2).mono ?_
        rintro e w6 ⟨rfl, hb6⟩
        have HX6 := Lib.hid hb6
        clear hb6
        go_wp2_with fail
        refine (same_yes Q n4 H4.out.1 A4 A5 c4 c5 w6 (HC4.out.on (bstep HX5.out HX6.out)) (HC5.out.on HX6.out) H4.out.2).mono ?_
        rintro e w7 ⟨rfl, hb7⟩
        have HX7 := Lib.hid hb7
        clear hb7
        go_wp2_with fail
        refine (awake_true _).mono ?_
        rintro e w8 ⟨rfl, hb8⟩
        have HX8 := Lib.hid hb8
        clear hb8
        go_wp2_with fail
        go_ret
        exact ⟨rfl, bstep HB.out (bstep (bstep (bstep (bstep (bstep (bstep HX2.out HX3.out) HX4.out) HX5.out) HX6.out) HX7.out) HX8.out)⟩
#print axioms walk_ShareScale
end Go.Proofs.Ytdolhanniiejfaa.Share
