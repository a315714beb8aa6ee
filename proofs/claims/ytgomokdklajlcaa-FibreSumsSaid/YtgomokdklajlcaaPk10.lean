/- Several texts in one: FibreD, ShareF, ZumM, ZumN, ZumO. -/
import Derived.Test.YtgomokdklajlcaaPk8
import Derived.Test.YtgomokdklajlcaaPk9
import Derived.BigRegion
import Derived.Test.YtgomokdklajlcaaPk4
import Derived.Lib.RabinKarpLaws
/- Check of the reference. -/
namespace Go.Proofs.Ytgomokdklajlcaa.Fibre
open Go.ChangeShapes Go.WideShapes Go.RowKit Go.Lib
open Go.Proofs.Ytgomokdklajlcaa.Mem (Cl eI Own)
open Go.Proofs.Ytgomokdklajlcaa.Rw (glt get_lt ret_bool ret_int wrap_id bstep below_drewN below_drew drew_below)
open Go.Proofs.Ytgomokdklajlcaa.Ident (validB str_ext)
set_option linter.unusedVariables false
set_option maxRecDepth 100000

theorem str_eq {a b : ByteArray} : (a.toList == b.toList) = decide (a = b) := by
  rw [ByteArray.toList_eq, ByteArray.toList_eq]
  by_cases h : a = b
  · rw [decide_eq_true h, h]; simp
  · rw [decide_eq_false h]
    have : ¬ a.data.toList = b.data.toList := fun e => h (str_ext e)
    simpa using this
theorem str_yes {a b : ByteArray} (h : a = b) : (a.toList == b.toList) = true := by rw [str_eq, decide_eq_true h]
theorem str_no {a b : ByteArray} (h : ¬ a = b) : (a.toList == b.toList) = false := by rw [str_eq, decide_eq_false h]
theorem elE_name {f : Fb} (h : validB f.1 = false) : elE f = 5 := by unfold elE; rw [h]; rfl
theorem elE_cost {f : Fb} (h : validB f.1 = true) (h2 : inM 1000000000 f.2 = false) : elE f = 1 := by unfold elE; rw [h, h2]; rfl
theorem elE_ok {f : Fb} (h : validB f.1 = true) (h2 : inM 1000000000 f.2 = true) : elE f = 0 := by unfold elE; rw [h, h2]; rfl
theorem chkE_el {l : List Fb} (h0 : ¬ l.length = 0) (h8 : ¬ 8 < l.length) {k : Nat} {f : Fb} (hf : l[k]? = some f) (hb : ¬ elE f = 0) (ha : ∀ (j : Nat) (g : Fb), j < k → l[j]? = some g → elE g = 0) : chkE l = elE f := by
  unfold chkE
  have h := firE_bad hf hb ha
  rw [if_neg h0, if_neg h8, h, if_neg hb]
theorem chkE_tw {l : List Fb} (h0 : ¬ l.length = 0) (h8 : ¬ 8 < l.length) (hf : firE l = 0) {i k : Nat} {f g : Fb} (hk : k < i) (h1 : l[i]? = some f) (h2 : l[k]? = some g) (e : f.1 = g.1) : chkE l = 6 := by
  unfold chkE
  rw [if_neg h0, if_neg h8, if_pos hf, if_pos (twB_iff.mpr ⟨i, k, f, g, hk, h1, h2, e⟩)]
theorem chkE_ok {l : List Fb} (h0 : ¬ l.length = 0) (h8 : ¬ 8 < l.length) (hf : firE l = 0) (h : ∀ (i k : Nat) (f g : Fb), k < i → l[i]? = some f → l[k]? = some g → ¬ f.1 = g.1) : chkE l = 0 := by
  unfold chkE
  rw [if_neg h0, if_neg h8, if_pos hf, if_neg (by rw [twB_no h]; decide)]
set_option maxHeartbeats 1600000 in
theorem rr_Check (l : List Fb) (A : Option Addr) (n c : Nat) (hn : n = l.length) (w : World) (ha : Kds w A l) (hz : Sz l) (hm : n ≤ 9223372036854775807) :
    Calls Try.prog 14 #[.slice A n c] w fun e w' => e = .returned (.int .i64 (chkE l)) ∧ Below w.heap.size w w' := by
  have HA := Lib.hid ha
  have HN := Lib.hid hn
  have HZ := Lib.hid hz
  obtain ⟨E, hE⟩ : ∃ E, chkE l = E := ⟨_, rfl⟩
  rw [hE]
  have HE := Lib.hid hE
  clear ha hz
  by_cases h0 : n = 0
  · subst h0
    obtain rfl : E = 10 := by rw [← hE]; unfold chkE; rw [if_pos hn.symm]
    clear hE hn
    go_enter Try.func14, Try.ntmps14
    go_wp2_with fail
    go_ret
    exact ⟨rfl, Below.refl _ _⟩
  have e0 : ((n : Int) == 0) = false := beq_false_of_ne (by omega)
  have e0' : ¬ (n : Int) = 0 := by omega
  by_cases h8 : 8 < n
  · have e8 : decide ((8 : Int) < (n : Int)) = true := decide_eq_true (by omega)
    obtain rfl : E = 8 := by rw [← hE]; unfold chkE; rw [if_neg (by omega), if_pos (by omega)]
    clear hE hn h0
    go_enter Try.func14, Try.ntmps14
    go_wp2_with fail
    go_ret
    exact ⟨rfl, Below.refl _ _⟩
  have e8 : decide ((8 : Int) < (n : Int)) = false := decide_eq_false (by omega)
  have H0 : Hid (¬ l.length = 0) := Lib.hid (by omega)
  have H8 : Hid (¬ 8 < l.length) := Lib.hid (by omega)
  clear hE hn h0
  go_enter Try.func14, Try.ntmps14
  go_wp2_with fail
  go_loopw [3] (fun i wr => ∃ k : Nat, k ≤ n ∧ i = .int .i64 k ∧ (∀ (j : Nat) (g : Fb), j < k → l[j]? = some g → elE g = 0) ∧ Below w.heap.size w wr) (fun i _ => n - (RowKit.intOf i).toNat)
  case atStart => exact ⟨0, Nat.zero_le _, rfl, fun j g h => absurd h (by omega), Below.refl _ _⟩
  case round =>
    obtain ⟨k, hk, rfl, hv, hbel⟩ := hrel
    have HV := Lib.hid hv
    have HB := Lib.hid hbel
    clear hv hbel
    rcases Nat.lt_or_ge k n with hlt | hge
    · obtain ⟨f, hf⟩ := get_lt (L := l) (k := k) (by have := HN.out; omega)
      obtain ⟨b, off, rfl, hb, c0, c1⟩ := kd_at (HA.out.on HB.out) hf
      have HF := Lib.hid hf
      have i1 : (k : Int) < (n : Int) := by omega
      have i2 : (0 : Int) ≤ (k : Int) := by omega
      have hsz := HZ.out f (List.mem_of_getElem? hf)
      clear hf
      cases hv : validB f.1 with
      | false =>
        have HC := Lib.hid (rrn_is hv hsz wr)
        obtain rfl : E = 5 := by rw [← HE.out, chkE_el H0.out H8.out HF.out (by rw [elE_name hv]; decide) HV.out, elE_name hv]
        clear hv hsz
        go_wp2_with fail
        refine HC.out.mono ?_
        rintro e w' ⟨rfl, rfl⟩
        go_wp2_with fail
        go_ret
        exact ⟨rfl, HB.out⟩
      | true =>
        have HC := Lib.hid (rrn_is hv hsz wr)
        have HVl := Lib.hid hv
        clear hv hsz
        rcases Int.lt_or_le f.2 0 with h0 | h0
        · have t0 : decide (f.2 < 0) = true := decide_eq_true h0
          have hc : inM 1000000000 f.2 = false := Bool.eq_false_iff.mpr fun h => by have := inM_iff.mp h; omega
          obtain rfl : E = 1 := by rw [← HE.out, chkE_el H0.out H8.out HF.out (by rw [elE_cost HVl.out hc]; decide) HV.out, elE_cost HVl.out hc]
          clear h0 hc
          go_wp2_with fail
          refine HC.out.mono ?_
          rintro e w' ⟨rfl, rfl⟩
          go_wp2_with fail
          go_ret
          exact ⟨rfl, HB.out⟩
        have t0 : decide (f.2 < 0) = false := decide_eq_false (by omega)
        rcases Int.lt_or_le 1000000000 f.2 with h1 | h1
        · have t1 : decide (1000000000 < f.2) = true := decide_eq_true h1
          have hc : inM 1000000000 f.2 = false := Bool.eq_false_iff.mpr fun h => by have := inM_iff.mp h; omega
          obtain rfl : E = 1 := by rw [← HE.out, chkE_el H0.out H8.out HF.out (by rw [elE_cost HVl.out hc]; decide) HV.out, elE_cost HVl.out hc]
          clear h0 h1 hc
          go_wp2_with fail
          refine HC.out.mono ?_
          rintro e w' ⟨rfl, rfl⟩
          go_wp2_with fail
          go_ret
          exact ⟨rfl, HB.out⟩
        have t1 : decide (1000000000 < f.2) = false := decide_eq_false (by omega)
        have HO := Lib.hid (elE_ok HVl.out (inM_iff.mpr ⟨h0, h1⟩))
        clear h0 h1
        go_wp2_with fail
        refine HC.out.mono ?_
        rintro e w' ⟨rfl, rfl⟩
        go_wp2_with fail
        go_roundw
        case rel =>
          refine ⟨k + 1, by omega, by go_num, ?_, HB.out⟩
          intro j g hj hg
          rcases Nat.lt_or_eq_of_le (Nat.le_of_lt_succ hj) with h | h
          · exact HV.out j g h hg
          · subst h
            have e := HF.out
            rw [hg] at e; cases e; exact HO.out
        case measure => simp [RowKit.intOf]; omega
    · obtain rfl : k = n := by omega
      have HFir : Hid (firE l = 0) := Lib.hid (firE_ok fun j g hg => HV.out j g (by rw [HN.out]; exact glt hg) hg)
      clear HV
      obtain ⟨w1, rfl⟩ : ∃ W, W = wr := ⟨wr, rfl⟩
      go_wp2_with fail
      go_loopw [4, 5] (fun i _ wr => ∃ k' : Nat, k' ≤ k ∧ i = .int .i64 k' ∧ (∀ (i j : Nat) (f g : Fb), i < k' → j < i → l[i]? = some f → l[j]? = some g → ¬ f.1 = g.1) ∧ Below w1.heap.size w1 wr) (fun i _ _ => k - (RowKit.intOf i).toNat)
      case atStart => exact ⟨0, Nat.zero_le _, rfl, fun i j f g h => absurd h (by omega), Below.refl _ _⟩
      case round =>
        obtain ⟨i, hi, rfl, hv, hbel⟩ := hrel
        have HP := Lib.hid hv
        have HB2 := Lib.hid hbel
        clear hv hbel
        rcases Nat.lt_or_ge i k with hlt | hge2
        · obtain ⟨f, hf⟩ := get_lt (L := l) (k := i) (by have := HN.out; omega)
          have HF := Lib.hid hf
          have i1 : (i : Int) < (k : Int) := by omega
          have i2 : (0 : Int) ≤ (i : Int) := by omega
          clear hf
          obtain ⟨w2, rfl⟩ : ∃ W, W = wr := ⟨wr, rfl⟩
          go_wp2_with fail
          go_loopw [5] (fun x wr => ∃ t : Nat, t ≤ i ∧ x = .int .i64 t ∧ (∀ (j : Nat) (g : Fb), j < t → l[j]? = some g → ¬ f.1 = g.1) ∧ Below w2.heap.size w2 wr) (fun x _ => i - (RowKit.intOf x).toNat)
          case atStart => exact ⟨0, Nat.zero_le _, rfl, fun j g h => absurd h (by omega), Below.refl _ _⟩
          case round =>
            obtain ⟨t, ht, rfl, hv, hbel⟩ := hrel
            have HQ := Lib.hid hv
            have HB3 := Lib.hid hbel
            clear hv hbel
            rcases Nat.lt_or_ge t i with hlt2 | hge3
            · obtain ⟨g, hg⟩ := get_lt (L := l) (k := t) (by have := HN.out; omega)
              obtain ⟨b, off, hA0, hb, c0, -⟩ := kd_at (((HA.out.on HB.out).on HB2.out).on HB3.out) HF.out
              obtain ⟨b', off', hA1, hb', d0, -⟩ := kd_at (((HA.out.on HB.out).on HB2.out).on HB3.out) hg
              subst hA0
              cases hA1
              have HG := Lib.hid hg
              have j1 : (t : Int) < (i : Int) := by omega
              have j2 : (0 : Int) ≤ (t : Int) := by omega
              have j3 : (t : Int) < (k : Int) := by omega
              clear hg
              by_cases e : f.1 = g.1
              · have he := str_yes e
                obtain rfl : E = 6 := by rw [← HE.out]; exact chkE_tw H0.out H8.out HFir.out hlt2 HF.out HG.out e
                clear e
                go_wp2_with fail
                go_quiet (fail)
                go_wp2_with fail
                go_ret
                exact ⟨rfl, HB.out.trans (below_drewN ((HB2.out.trans (HB3.out.mono HB2.out.size)).mono HB.out.size) _)⟩
              · have he := str_no e
                have HD := Lib.hid e
                clear e
                go_wp2_with fail
                go_quiet (fail)
                go_wp2_with fail
                go_roundw
                case rel =>
                  refine ⟨t + 1, by omega, by go_num, ?_, below_drewN HB3.out _⟩
                  intro j y hj hy
                  rcases Nat.lt_or_eq_of_le (Nat.le_of_lt_succ hj) with h | h
                  · exact HQ.out j y h hy
                  · subst h
                    have e := HG.out
                    rw [hy] at e; cases e; exact HD.out
                case measure => simp [RowKit.intOf]; omega
            · obtain rfl : t = i := by omega
              have HNx : Hid (∀ (i j : Nat) (f g : Fb), i < t + 1 → j < i → l[i]? = some f → l[j]? = some g → ¬ f.1 = g.1) := Lib.hid (by
                intro a j x y ha hj hx hy
                rcases Nat.lt_or_eq_of_le (Nat.le_of_lt_succ ha) with h | h
                · exact HP.out a j x y h hj hx hy
                · subst h
                  have e := HF.out
                  rw [hx] at e; cases e
                  exact HQ.out j y hj hy)
              go_wp2_with fail
              go_roundw
              case rel => exact ⟨t + 1, by omega, by go_num, HNx.out, HB2.out.trans (HB3.out.mono HB2.out.size)⟩
              case measure => simp [RowKit.intOf]; omega
        · obtain rfl : i = k := by omega
          obtain rfl : E = 0 := by rw [← HE.out]; exact chkE_ok H0.out H8.out HFir.out fun a j f g hj hf hg => HP.out a j f g (by rw [HN.out]; exact glt hf) hj hf hg
          go_wp2_with fail
          go_ret
          exact ⟨rfl, HB.out.trans (HB2.out.mono HB.out.size)⟩
end Go.Proofs.Ytgomokdklajlcaa.Fibre
/- share.Split: the walk. -/
namespace Go.Proofs.Ytgomokdklajlcaa.Share
open Go.ChangeShapes Go.WideShapes Go.RowKit Go.Lib Go.Proofs.Ytgomokdklajlcaa.Mem
set_option linter.unusedVariables false
set_option maxRecDepth 100000

theorem lst_zero (n : Nat) : List.replicate n (0 : Int) = lst (fun _ => 0) n := by unfold lst; rw [List.map_const', List.length_range]
abbrev zeros (n : Nat) : Obj := .cells (madeCells #[.int .i64 0] n) 3
theorem one_made (w : World) (n : Nat) (hn : n ≤ 100000) : Own eI 3 w.heap.size (w.alloc (zeros n)) (.slice (some ⟨w.heap.size, 0, none⟩) n n) (lst (fun _ => 0) n) := by
  have h1 := own_made eI 3 w n 0 hn
  rw [lst_zero] at h1
  exact h1
theorem two_made (w : World) (n : Nat) (hn : n ≤ 100000) : Own eI 3 w.heap.size ((w.alloc (zeros n)).alloc (zeros n)).drew (.slice (some ⟨w.heap.size, 0, none⟩) n n) (lst (fun _ => 0) n) ∧
    Own eI 3 w.heap.size ((w.alloc (zeros n)).alloc (zeros n)).drew (.slice (some ⟨w.heap.size + 1, 0, none⟩) n n) (lst (fun _ => 0) n) ∧ Below w.heap.size w ((w.alloc (zeros n)).alloc (zeros n)).drew := by
  have h1 := one_made w n hn
  have h2 := one_made (w.alloc (zeros n)) n hn
  have hs : (w.alloc (zeros n)).heap.size = w.heap.size + 1 := by simp
  rw [hs] at h2
  exact ⟨(h1.alloc _).drew, (h2.less (by omega)).drew, below_drew (bstep (below_alloc _ _) (below_alloc _ _))⟩
/-- The list with its first k values. -/
def upL (f : Nat → Nat) (k n : Nat) : List Int := lst (fun j => if j < k then (f j : Int) else 0) n
theorem upL_len (f : Nat → Nat) (k n : Nat) : (upL f k n).length = n := lst_len _ _
theorem upL_zero (f : Nat → Nat) (n : Nat) : upL f 0 n = lst (fun _ => 0) n := by unfold upL; exact lst_congr fun i _ => by simp
theorem upL_at (f : Nat → Nat) {k n : Nat} (h : k < n) : (upL f k n)[k]? = some 0 := by
  unfold upL; rw [lst_at _ h, if_neg (Nat.lt_irrefl k)]
theorem upL_set (f : Nat → Nat) {k n : Nat} (h : k < n) : (upL f k n).set k (f k : Int) = upL f (k + 1) n := by
  unfold upL
  exact lst_set h fun i hi => by
    by_cases h1 : i = k
    · subst h1; simp
    · rw [if_neg h1]
      by_cases h2 : i < k
      · rw [if_pos (by omega), if_pos h2]
      · rw [if_neg (by omega), if_neg h2]
theorem upL_all (f : Nat → Nat) (n : Nat) : upL f n n = lst (fun j => (f j : Int)) n := lst_congr fun i hi => if_pos hi

set_option maxHeartbeats 3200000 in
theorem share_split (t : Int) (ws : List Int) (A : Option Addr) (c : Nat) (w : World) (hS : Cl eI w A ws) (hl : ws.length ≤ 9223372036854775807) :
    Calls Try.prog 42 #[.int .i64 t, .slice A ws.length c] w (ResL (splL t ws) (errS t ws) w) := by
  have HDIV := Lib.hid (share_divisor t ws A c w hS hl)
  by_cases hE : errS t ws = 0
  · obtain ⟨W, hW, hW0, hW1, hwW, -, hqr, -⟩ := dvV_ok hE
    have ok := Ok.of hE
    obtain ⟨T, hT⟩ : ∃ T : Nat, T = t.toNat := ⟨_, rfl⟩
    have ht : t = (T : Int) := by have := ok.t0; omega
    have hTm : T ≤ 1125899906842624 := by have h1 := ok.t1; have hm : mx = 1125899906842624 := rfl; omega
    rw [hW, hE] at HDIV
    have HRES : Hid (splL t ws = partsL t ws) := if_pos hE
    obtain ⟨q, hq⟩ : ∃ q, q = quo t.toNat (wf ws) ws.length := ⟨_, rfl⟩
    obtain ⟨r, hr⟩ : ∃ r, r = rst t.toNat (wf ws) ws.length := ⟨_, rfl⟩
    obtain ⟨L, hL⟩ : ∃ L, L = lft t.toNat (wf ws) ws.length := ⟨_, rfl⟩
    have HFIN : Hid (lst (fun j => (gots q r ws.length L j : Int)) ws.length = partsL t ws) := by
      show _ = _
      unfold partsL lst
      exact List.map_congr_left fun i hi => by rw [hq, hr, hL, ok.gots (List.mem_range.mp hi)]
    have HLN : Hid (L ≤ ws.length ∧ ws.length ≤ 512 ∧ 0 < ws.length) := ⟨hL ▸ ok.lft_le, ok.n1, ok.n0⟩
    have HSUM : Hid (∀ k, k ≤ ws.length → sm q k ≤ T) := fun k hk => by rw [hq, hT]; exact ok.quo_sum hk
    have HLQ : Hid (L = T - sm q ws.length) := by show L = _; rw [hL, hq, hT]; rfl
    have HDV := Lib.hid (show ∀ i, i < ws.length → ∀ W', Calls Try.prog 54 #[.int .i64 (T : Int), .int .i64 (wf ws i : Int), .int .i64 (W : Int)] W' fun e w' => e = .returned (.tuple #[.int .i64 (q i : Int), .int .i64 (r i : Int)]) ∧ Below W'.heap.size W' w' from fun i hi W' => by
      have h1 := share_divide hW0 hTm (hwW i hi) hW1 W'
      have h2 := hqr i hi
      rw [← hT] at h2 hq hr
      rw [h2.1, h2.2] at h1
      rw [hq, hr]; exact h1)
    have HQL : Hid (∀ i, i < ws.length → q i ≤ 1125899906842624) := fun i hi => by rw [hq]; exact Nat.le_trans (quo_le hi) (by omega)
    have HWF : Hid (∀ (i : Nat) z, ws[i]? = some z → z = (wf ws i : Int)) := fun i z hz => (wf_at hz (ok.all z (List.mem_of_getElem? hz)).1).symm
    have HS := Lib.hid hS
    obtain ⟨n, hn⟩ : ∃ n, ws.length = n := ⟨_, rfl⟩
    have HN := Lib.hid hn
    have HEE := Lib.hid hE
    have HTT := Lib.hid ht
    rw [hn] at HDIV HFIN HLN HSUM HLQ HDV HQL hl ⊢
    rw [hE]
    rw [ht] at HDIV ⊢
    have hn5 := HLN.out.2.1
    have hmk := fun W => make_ints n (by omega) W
    clear hS hW hW0 hW1 hwW hqr ok hT ht hq hr hL hE hn hl
    go_enter Try.func42, Try.ntmps42
    go_wp2_with fail
    refine HDIV.out.mono ?_
    rintro e w1 ⟨rfl, hb1⟩
    have HB1 := Lib.hid hb1
    clear hb1
    go_upto_region 4 with fail
    go_cut [8, 9] from 24 to 29 (fun x y wc => ∃ gp gr : Nat, x = .slice (some ⟨gp, 0, none⟩) n n ∧ y = .slice (some ⟨gr, 0, none⟩) n n ∧ gp ≠ gr ∧ Own eI 3 w1.heap.size wc (.slice (some ⟨gp, 0, none⟩) n n) (lst (fun _ => 0) n) ∧ Own eI 3 w1.heap.size wc (.slice (some ⟨gr, 0, none⟩) n n) (lst (fun _ => 0) n) ∧ Below w1.heap.size w1 wc)
    case first =>
      have HTM := Lib.hid (two_made w1 n (by omega))
      go_wp2_with fail
      go_region
      all_goals
        go_wp2_with fail
        go_meet
        case rel =>
          first
            | exact ⟨w1.heap.size, w1.heap.size + 1, rfl, rfl, by omega, HTM.out.1, HTM.out.2.1, HTM.out.2.2⟩
            | exact ⟨w1.heap.size + 1, w1.heap.size, rfl, rfl, by omega, HTM.out.2.1, HTM.out.1, HTM.out.2.2⟩
    case rest =>
      obtain ⟨gp, gr, rfl, rfl, hgne, hop, hor, hbc⟩ := hcut
      have HOP := Lib.hid hop
      have HOR := Lib.hid hor
      have HBC := Lib.hid hbc
      have HNE := Lib.hid hgne
      clear hop hor hbc hmk hgne
      go_wp2_with fail
      go_loopw [10, 11, 12, 33] (fun l _ _ x wr => ∃ k M : Nat, l = .int .i64 (M : Int) ∧ x = .int .i64 (k : Int) ∧ k ≤ n ∧ M = T - sm q k ∧ Own eI 3 w1.heap.size wr (.slice (some ⟨gp, 0, none⟩) n n) (upL q k n) ∧ Own eI 3 w1.heap.size wr (.slice (some ⟨gr, 0, none⟩) n n) (upL r k n) ∧ Below w1.heap.size w1 wr) (fun _ _ _ x _ => n - (RowKit.intOf x).toNat)
      case atStart => exact ⟨0, T, rfl, rfl, Nat.zero_le _, rfl, by rw [upL_zero]; exact HOP.out, by rw [upL_zero]; exact HOR.out, HBC.out⟩
      case round =>
        obtain ⟨k, M, rfl, rfl, hk, hM, hop, hor, hbel⟩ := hrel
        have HOP2 := Lib.hid hop
        have HOR2 := Lib.hid hor
        have HB := Lib.hid hbel
        have HM := Lib.hid hM
        clear hop hor hbel hM
        rcases Nat.lt_or_ge k n with hlt | hge
        · obtain ⟨z, hz⟩ := get_lt (L := ws) (k := k) (by rw [HN.out]; exact hlt)
          obtain ⟨b, off, hA, hb, hcell⟩ := (HS.out.on (HB1.out.trans (HB.out.mono HB1.out.size))) k z hz
          obtain rfl := hA
          obtain rfl := HWF.out k z hz
          have HZ := Lib.hid hz
          have HCALL := Lib.hid (HDV.out k hlt wr)
          obtain ⟨x, hx⟩ : ∃ x, x = wf ws k := ⟨_, rfl⟩
          obtain ⟨Q, hQ⟩ : ∃ x, x = q k := ⟨_, rfl⟩
          obtain ⟨R, hR⟩ : ∃ x, x = r k := ⟨_, rfl⟩
          rw [← hx] at hcell HCALL
          rw [← hQ, ← hR] at HCALL
          have HQR := Lib.hid (show Q = q k ∧ R = r k from ⟨hQ, hR⟩)
          have i1 : (k : Int) < (n : Int) := by omega
          have i2 : (0 : Int) ≤ (k : Int) := by omega
          have hk1 : IntKind.i64.wrap ((k : Int) + 1) = ((k + 1 : Nat) : Int) := wrap_id (by omega)
          clear hz hx hQ hR hb hk
          go_wp2_with fail
          refine HCALL.out.mono ?_
          rintro e w3 ⟨rfl, hb3⟩
          have HOP3 := Lib.hid (HOP2.out.on hb3)
          have HOR3 := Lib.hid (HOR2.out.on hb3)
          have HB3 : Hid (Below w1.heap.size w1 w3) := HB.out.trans (hb3.mono HB.out.size)
          have cp := HOP3.out.cell (upL_at q hlt)
          have cr := HOR3.out.cell (upL_at r hlt)
          have fp := HOP3.out.warm (upL_len q k n).symm k
          have fr := HOR3.out.warm (upL_len r k n).symm k
          have hne1 := HNE.out
          have hne2 : gr ≠ gp := fun e => HNE.out e.symm
          have HPP : Hid (Own eI 3 w1.heap.size ((w3.setCell ⟨gp, k, none⟩ (.int .i64 (Q : Int))).setCell ⟨gr, k, none⟩ (.int .i64 (R : Int))) (.slice (some ⟨gp, 0, none⟩) n n) (upL q (k + 1) n)) := by
            have h1 := HOP3.out.set (upL_len q k n).symm k (Q : Int)
            rw [HQR.out.1, upL_set q hlt] at h1
            rw [HQR.out.1]
            exact h1.other (p := ⟨gr, k, none⟩) (by show some gp ≠ some gr; simpa using HNE.out) _
          have HRR : Hid (Own eI 3 w1.heap.size ((w3.setCell ⟨gp, k, none⟩ (.int .i64 (Q : Int))).setCell ⟨gr, k, none⟩ (.int .i64 (R : Int))) (.slice (some ⟨gr, 0, none⟩) n n) (upL r (k + 1) n)) := by
            have h1 := HOR3.out.other (p := ⟨gp, k, none⟩) (by show some gr ≠ some gp; simpa using hne2) (.int .i64 (Q : Int))
            have h2 := h1.set (upL_len r k n).symm k (R : Int)
            rw [HQR.out.2, upL_set r hlt] at h2
            rw [HQR.out.2]
            exact h2
          have HBB : Hid (Below w1.heap.size w1 ((w3.setCell ⟨gp, k, none⟩ (.int .i64 (Q : Int))).setCell ⟨gr, k, none⟩ (.int .i64 (R : Int)))) := below_set (below_set HB3.out (p := ⟨gp, k, none⟩) (HOP3.out.lt gp rfl).1 _) (p := ⟨gr, k, none⟩) (HOR3.out.lt gr rfl).1 _
          have HSK := Lib.hid (show sm q (k + 1) ≤ T ∧ sm q (k + 1) = sm q k + Q by
            refine ⟨HSUM.out _ hlt, by rw [HQR.out.1]; rfl⟩)
          obtain ⟨M', hM'⟩ : ∃ x, x = M - Q := ⟨_, rfl⟩
          have HMM := Lib.hid (show M' = T - sm q (k + 1) ∧ Q ≤ M ∧ M' = M - Q by have := HM.out; have := HSK.out; omega)
          have hwm : IntKind.i64.wrap ((M : Int) - (Q : Int)) = (M' : Int) := by
            have h1 := HMM.out
            have h2 := HM.out
            rw [wrap_id (by omega)]; omega
          clear hb3 hM' hlt
          go_wp2_with fail
          go_roundw
          case rel => exact ⟨k + 1, M', rfl, rfl, by omega, HMM.out.1, HPP.out, HRR.out, HBB.out⟩
          case measure => simp [RowKit.intOf]; omega
        · obtain rfl : n = k := by omega
          obtain rfl : L = M := by have h1 := HM.out; have h2 := HLQ.out; omega
          have HLF := Lib.hid (largest_first r n n (some ⟨gr, 0, none⟩) wr hn5 ((upL_all r n) ▸ HOR2.out.cl))
          have hLn := HLN.out.1
          clear hk hge
          go_wp2_with fail
          refine HLF.out.mono ?_
          rintro e w4 ⟨go, s, rfl, hgo, hown, hrank, hb4⟩
          have hsl := fun W => slice_hi (some ⟨go, 0, none⟩) n n L hLn W
          have HGO : Hid (gp ≠ go) := by
            have := (HOP2.out.lt gp rfl).2
            show gp ≠ go
            omega
          have HOP4 : Hid (Own eI 3 w1.heap.size w4 (.slice (some ⟨gp, 0, none⟩) n n) (lst (fun j => (gots q r n 0 j : Int)) n)) := by
            have h1 := HOP2.out.on hb4
            rw [upL_all] at h1
            rw [lst_congr (g := fun j => (q j : Int)) fun i _ => by rw [gots_zero]]
            exact h1
          have HOO4 := Lib.hid hown
          have HRK := Lib.hid hrank
          have HB4 : Hid (Below w1.heap.size w1 w4) := HB.out.trans (hb4.mono HB.out.size)
          have hL6 : (L : Int) ≤ (n : Int) := by omega
          have hL7 : (0 : Int) ≤ (L : Int) := by omega
          clear hgo hown hrank hb4 hLn HLF
          go_wp2_with fail
          go_loopw [14, 63] (fun _ x wr' => ∃ k : Nat, x = .int .i64 (k : Int) ∧ k ≤ L ∧ Own eI 3 w1.heap.size wr' (.slice (some ⟨gp, 0, none⟩) n n) (lst (fun j => (gots q r n k j : Int)) n) ∧ Own eI 3 0 wr' (.slice (some ⟨go, 0, none⟩) n n) (lst (fun j => (s j : Int)) n) ∧ Below w1.heap.size w1 wr') (fun _ x _ => L - (RowKit.intOf x).toNat)
          case atStart => exact ⟨0, rfl, Nat.zero_le _, HOP4.out, HOO4.out.less (Nat.zero_le _), HB4.out⟩
          case round =>
            obtain ⟨k, rfl, hk, hop, hoo, hbel⟩ := hrel
            have HOP5 := Lib.hid hop
            have HOO5 := Lib.hid hoo
            have HB5 := Lib.hid hbel
            have hLn := HLN.out.1
            clear hop hoo hbel
            rcases Nat.lt_or_ge k L with hlt | hge
            · have hkn : k < n := by omega
              obtain ⟨x, hx⟩ : ∃ x, x = s k := ⟨_, rfl⟩
              have hxn : x < n := hx ▸ (HRK.out k hkn).1
              have ck := HOO5.out.cell (lst_at _ hkn)
              have cx := HOP5.out.cell (lst_at _ hxn)
              have fx := HOP5.out.warm (lst_len _ n).symm x
              obtain ⟨G, hG⟩ : ∃ x', x' = gots q r n k x := ⟨_, rfl⟩
              rw [← hx] at ck
              rw [← hG] at cx
              have hGb : G ≤ 1125899906842625 := by
                have h1 := HQL.out x hxn
                rw [hG]; unfold gots; split <;> omega
              have HNX : Hid (Own eI 3 w1.heap.size (wr.setCell ⟨gp, x, none⟩ (.int .i64 ((G + 1 : Nat) : Int))) (.slice (some ⟨gp, 0, none⟩) n n) (lst (fun j => (gots q r n (k + 1) j : Int)) n)) := by
                have h1 := HOP5.out.set (lst_len _ n).symm x ((G + 1 : Nat) : Int)
                rw [lst_set (g := fun j => (gots q r n (k + 1) j : Int)) hxn fun i hi => by
                  rw [gots_next hxn (by rw [hx]; exact (HRK.out k hkn).2) hi]
                  by_cases h2 : i = x
                  · rw [if_pos h2, if_pos h2, h2, hG]
                  · rw [if_neg h2, if_neg h2]] at h1
                exact h1
              have HOX : Hid (Own eI 3 0 (wr.setCell ⟨gp, x, none⟩ (.int .i64 ((G + 1 : Nat) : Int))) (.slice (some ⟨go, 0, none⟩) n n) (lst (fun j => (s j : Int)) n)) := HOO5.out.other (p := ⟨gp, x, none⟩) (by show some go ≠ some gp; have := HGO.out; simp; omega) _
              have HBX : Hid (Below w1.heap.size w1 (wr.setCell ⟨gp, x, none⟩ (.int .i64 ((G + 1 : Nat) : Int)))) := below_set HB5.out (p := ⟨gp, x, none⟩) (HOP5.out.lt gp rfl).1 _
              have i1 : (k : Int) < (L : Int) := by omega
              have i2 : (0 : Int) ≤ (k : Int) := by omega
              have i3 : (x : Int) < (n : Int) := by omega
              have i4 : (0 : Int) ≤ (x : Int) := by omega
              have hk1 : IntKind.i64.wrap ((k : Int) + 1) = ((k + 1 : Nat) : Int) := wrap_id (by omega)
              have hg1 : IntKind.i64.wrap ((G : Int) + 1) = ((G + 1 : Nat) : Int) := wrap_id (by omega)
              have HLT := Lib.hid hlt
              clear hx hG hGb hxn hkn hLn hlt hk
              go_wp2_with fail
              go_roundw
              case rel => exact ⟨k + 1, rfl, HLT.out, HNX.out, HOX.out, HBX.out⟩
              case measure =>
                have := HLT.out
                simp [RowKit.intOf]; omega
            · obtain rfl : L = k := by omega
              have HOF : Hid (Own eI 3 w.heap.size wr (.slice (some ⟨gp, 0, none⟩) n n) (splL t ws)) := by
                rw [HRES.out, ← HFIN.out]
                exact HOP5.out.less HB1.out.size
              have HBF : Hid (Below w.heap.size w wr) := HB1.out.trans (HB5.out.mono HB1.out.size)
              clear hk hge hLn
              go_wp2_with fail
              go_ret2
              exact ⟨_, rfl, by rw [← HTT.out]; exact HOF.out, HBF.out⟩
  · obtain ⟨E, hEE⟩ : ∃ E, E = errS t ws := ⟨_, rfl⟩
    have HRES : Hid (splL t ws = []) := if_neg hE
    have hE1 : ((E : Int) != 0) = true := by simp; omega
    have hE2 : ¬ E = 0 := by omega
    have hE3 : ¬ (E : Int) = 0 := by omega
    obtain ⟨D, hD⟩ : ∃ D, D = dvV t ws := ⟨_, rfl⟩
    obtain ⟨n, hn⟩ : ∃ n, ws.length = n := ⟨_, rfl⟩
    rw [← hEE, ← hD, hn] at HDIV
    rw [← hEE, hn]
    clear hEE hD hS hl hn hE
    go_enter Try.func42, Try.ntmps42
    go_wp2_with fail
    refine HDIV.out.mono ?_
    rintro e w1 ⟨rfl, hb1⟩
    have HB1 := Lib.hid hb1
    clear hb1
    go_wp2_with fail
    go_ret2
    exact ⟨_, rfl, by rw [HRES.out]; exact Own.nil _ _ _ _, HB1.out⟩
end Go.Proofs.Ytgomokdklajlcaa.Share
/- Contracts of divide and MulDiv of the reference. -/
namespace Go.Proofs.Ytgomokdklajlcaa.Num
open Go.ChangeShapes Go.WideShapes Go.RowKit
set_option linter.unusedVariables false
set_option linter.unusedSimpArgs false

/-- The quotient, cut off at 2^52. -/
def capQ (n c : Nat) : Nat := min (n / c) 4503599627370496
theorem cap_step {A b c bit : Nat} (hc : 1 ≤ c) : capQ ((2 * A + bit) * b) c = min (2 * capQ (A * b) c + (2 * (A * b % c) + bit * b) / c) 4503599627370496 := by
  have e : (2 * A + bit) * b = c * (2 * (A * b / c)) + (2 * (A * b % c) + bit * b) := by
    have h := Nat.div_add_mod (A * b) c
    have e1 : c * (2 * (A * b / c)) = 2 * (c * (A * b / c)) := Nat.mul_left_comm _ _ _
    rw [Nat.add_mul, Nat.mul_assoc, e1]; omega
  unfold capQ
  rw [e, Nat.mul_add_div (by omega)]
  generalize (2 * (A * b % c) + bit * b) / c = t
  generalize A * b / c = n
  omega
theorem rest_step {A b c bit : Nat} : (2 * A + bit) * b % c = (2 * (A * b % c) + bit * b) % c := by
  have h := Nat.div_add_mod (A * b) c
  have e : (2 * A + bit) * b = (2 * (A * b % c) + bit * b) + c * (2 * (A * b / c)) := by
    have e1 : c * (2 * (A * b / c)) = 2 * (c * (A * b / c)) := Nat.mul_left_comm _ _ _
    rw [Nat.add_mul, Nat.mul_assoc, e1]; omega
  rw [e, Nat.add_mul_mod_self_left]
theorem bit_step (a i : Nat) : a / 2 ^ i = 2 * (a / 2 ^ (i + 1)) + a / 2 ^ i % 2 := by
  have : a / 2 ^ (i + 1) = a / 2 ^ i / 2 := by rw [Nat.pow_succ, Nat.div_div_eq_div_mul]
  rw [this]; omega

theorem and_bit {a i v : Nat} (ha : a < 9223372036854775808) (h : a / 2 ^ i % 2 = v) : bits .and .i64 ((a : Int) / 2 ^ i) 1 = v := by
  have e : (a : Int) / 2 ^ i = ((a / 2 ^ i : Nat) : Int) := by rw [Int.natCast_ediv, Int.natCast_pow]; rfl
  rw [e, Go.Proofs.and_one _ (by have := Nat.div_le_self a (2 ^ i); omega), h]

set_option maxHeartbeats 400000 in
theorem ref_divide (a b c : Nat) (w : World) (ha : a ≤ 1125899906842624) (hb : b ≤ 1125899906842624) (hc1 : 1 ≤ c) (hc2 : c ≤ 1125899906842624) :
    Calls Try.prog 62 #[.int .i64 (a : Int), .int .i64 (b : Int), .int .i64 (c : Int)] w fun e w' => e = .returned (.tuple #[.int .i64 (capQ (a * b) c : Int), .int .i64 ((a * b % c : Nat) : Int)]) ∧ Below w.heap.size w w' := by
  have ha' : (a : Int) ≤ 1125899906842624 := by omega
  have hb' : (b : Int) ≤ 1125899906842624 := by omega
  have hc1' : 1 ≤ (c : Int) := by omega
  have hc2' : (c : Int) ≤ 1125899906842624 := by omega
  go_enter Try.func62, Try.ntmps62
  go_wp2_with fail
  go_loop [8, 9, 10] (fun x y z => ∃ j q r : Nat, j ≤ 51 ∧ x = .int .i64 q ∧ y = .int .i64 r ∧ z = .int .i64 ((j : Int) - 1) ∧ q = capQ (a / 2 ^ j * b) c ∧ r = a / 2 ^ j * b % c) (fun _ _ z => (intOf z + 1).toNat)
  case atStart =>
    have h0 : a / 2 ^ 51 = 0 := Nat.div_eq_of_lt (by omega)
    exact ⟨51, 0, 0, by omega, rfl, rfl, by go_num, by rw [h0]; simp [capQ], by rw [h0]; simp⟩
  case round =>
    obtain ⟨j, q, r, hj, rfl, rfl, rfl, hq, hr⟩ := hrel
    have hq1 : (q : Int) ≤ 4503599627370496 := by unfold capQ at hq; omega
    have hr1 : (r : Int) < c := by have := Nat.mod_lt (a / 2 ^ j * b) hc1; omega
    have HQ := Lib.hid hq
    have HR := Lib.hid hr
    clear hq hr
    cases j with
    | zero =>
      rw [show ((0 : Nat) : Int) - 1 = -1 from rfl]
      go_wp2
      go_ret2
      have e1 := HQ.out
      have e2 := HR.out
      rw [Nat.pow_zero, Nat.div_one] at e1 e2
      exact ⟨ret_two (by rw [e1]) (by rw [e2, Int.natCast_emod, Int.natCast_mul]), Below.refl _ _⟩
    | succ i =>
      have hi : ((i + 1 : Nat) : Int) - 1 = i := by omega
      rw [hi]; clear hi
      have hdb : a / 2 ^ i = 2 * (a / 2 ^ (i + 1)) + a / 2 ^ i % 2 := bit_step a i
      have hc0 : 0 ≤ (c : Int) := by omega
      rcases Nat.mod_two_eq_zero_or_one (a / 2 ^ i) with hbit | hbit
      · have hband := and_bit (a := a) (i := i) (by omega) hbit
        have e1 := cap_step (A := a / 2 ^ (i + 1)) (b := b) (bit := 0) hc1
        have e2 := rest_step (A := a / 2 ^ (i + 1)) (b := b) (c := c) (bit := 0)
        rw [hbit] at hdb
        rw [← hdb, ← HQ.out, ← HR.out] at e1
        rw [← hdb, ← HR.out] at e2
        obtain ⟨t, ht⟩ : ∃ t : Nat, 2 * (r : Int) / c = t := ⟨2 * r / c, by rw [Int.natCast_ediv, Int.natCast_mul]; rfl⟩
        obtain ⟨v, hv⟩ : ∃ v : Nat, 2 * (r : Int) % c = v := ⟨2 * r % c, by rw [Int.natCast_emod, Int.natCast_mul]; rfl⟩
        have et : t = 2 * r / c := by have : ((2 * r / c : Nat) : Int) = 2 * (r : Int) / c := by rw [Int.natCast_ediv, Int.natCast_mul]; rfl
                                      omega
        have ev : v = 2 * r % c := by have : ((2 * r % c : Nat) : Int) = 2 * (r : Int) % c := by rw [Int.natCast_emod, Int.natCast_mul]; rfl
                                      omega
        have et1 : (t : Int) ≤ 4503599627370496 := by have := Nat.div_le_self (2 * r) c; omega
        rw [Nat.zero_mul, Nat.add_zero] at e1 e2
        rw [← et] at e1
        rw [← ev] at e2
        have E1 := Lib.hid e1
        have E2 := Lib.hid e2
        clear e1 e2 et ev hdb hbit
        go_wp2_with fail
        go_round
        case rel => exact ⟨i, min (2 * q + t) 4503599627370496, v, by omega, congrArg _ (by omega), congrArg _ hv, rfl, E1.out.symm, E2.out.symm⟩
        case measure => simp [intOf]
      · have hband := and_bit (a := a) (i := i) (by omega) hbit
        have e1 := cap_step (A := a / 2 ^ (i + 1)) (b := b) (bit := 1) hc1
        have e2 := rest_step (A := a / 2 ^ (i + 1)) (b := b) (c := c) (bit := 1)
        rw [hbit] at hdb
        rw [← hdb, ← HQ.out, ← HR.out] at e1
        rw [← hdb, ← HR.out] at e2
        obtain ⟨t, ht⟩ : ∃ t : Nat, (2 * (r : Int) + b) / c = t := ⟨(2 * r + b) / c, by rw [Int.natCast_ediv, Int.natCast_add, Int.natCast_mul]; rfl⟩
        obtain ⟨v, hv⟩ : ∃ v : Nat, (2 * (r : Int) + b) % c = v := ⟨(2 * r + b) % c, by rw [Int.natCast_emod, Int.natCast_add, Int.natCast_mul]; rfl⟩
        have et : t = (2 * r + b) / c := by have : (((2 * r + b) / c : Nat) : Int) = (2 * (r : Int) + b) / c := by rw [Int.natCast_ediv, Int.natCast_add, Int.natCast_mul]; rfl
                                            omega
        have ev : v = (2 * r + b) % c := by have : (((2 * r + b) % c : Nat) : Int) = (2 * (r : Int) + b) % c := by rw [Int.natCast_emod, Int.natCast_add, Int.natCast_mul]; rfl
                                            omega
        have et1 : (t : Int) ≤ 4503599627370496 := by have := Nat.div_le_self (2 * r + b) c; omega
        rw [Nat.one_mul] at e1 e2
        rw [← et] at e1
        rw [← ev] at e2
        have E1 := Lib.hid e1
        have E2 := Lib.hid e2
        clear e1 e2 et ev hdb hbit
        go_wp2_with fail
        go_round
        case rel => exact ⟨i, min (2 * q + t) 4503599627370496, v, by omega, congrArg _ (by omega), congrArg _ hv, rfl, E1.out.symm, E2.out.symm⟩
        case measure => simp [intOf]
end Go.Proofs.Ytgomokdklajlcaa.Num
/- The contract of MulDiv of the reference. -/
namespace Go.Proofs.Ytgomokdklajlcaa.Num
open Go.ChangeShapes Go.WideShapes Go.RowKit
set_option linter.unusedVariables false
set_option linter.unusedSimpArgs false

/-- What the reference's divide returns for the magnitudes. -/
def DivAt (a b c : Int) (n r : Nat) : Prop := ∀ W, Calls Try.prog 62 #[.int .i64 (a.natAbs : Int), .int .i64 (b.natAbs : Int), .int .i64 (c.natAbs : Int)] W fun e w' => e = .returned (.tuple #[.int .i64 (n : Int), .int .i64 (r : Int)]) ∧ Below W.heap.size W w'

set_option maxHeartbeats 1000000 in
theorem ref_md_z0 (a b c : Int) (n r : Nat) (x y z : Bool) (w : World) (ha : inB a = true) (hb : inB b = true) (hc : inB c = true)
    (a1 : -1125899906842624 ≤ a) (a2 : a ≤ 1125899906842624) (b1 : -1125899906842624 ≤ b) (b2 : b ≤ 1125899906842624) (c1 : -1125899906842624 ≤ c) (c2 : c ≤ 1125899906842624) (hz' : (c == 0) = false)
    (hd1 : 1 ≤ (c.natAbs : Int)) (hn : (n : Int) ≤ 4503599627370496) (HD : Hid (DivAt a b c n r)) (da : decide (a < 0) = x) (db : decide (b < 0) = y) (dc : decide (c < 0) = z) (hr : r = 0) :
    Calls Try.prog 45 #[.int .i64 a, .int .i64 b, .int .i64 c, .int .i64 0] w fun e w' => e = .returned (.tuple #[.int .i64 (okV (sg ((x != y) != z) (n + 0))), .int .i64 (okE (sg ((x != y) != z) (n + 0)))]) ∧ Below w.heap.size w w' := by
  subst hr
  cases x
  all_goals cases y
  all_goals cases z
  all_goals simp only [bne_self_eq_false, Bool.true_bne, Bool.false_bne, Bool.not_true, Bool.not_false, Bool.bne_true, Bool.bne_false, Bool.false_eq_true, if_true, if_false, Nat.add_zero]
  all_goals
    go_enter Try.func45, Try.ntmps45
    go_wp2_with (first | (go_at_call 61; refine (ref_in _ _).mono ?_; rintro e w' ⟨rfl, rfl⟩) | (go_at_call 63; refine (ref_abs _ _ (by omega) (by omega)).mono ?_; rintro e w' ⟨rfl, rfl⟩) | (go_at_call 62; refine (HD.out _).mono ?_; rintro e w1 ⟨rfl, hb1⟩) | (go_at_call 64; refine (ref_result _ _).mono ?_; rintro e w' ⟨rfl, rfl⟩))
    go_ret2
    exact ⟨ret_two (by simp [sg]) (by simp [sg]), hb1⟩

set_option maxHeartbeats 1000000 in
theorem ref_md_z1 (a b c : Int) (n r : Nat) (x y z : Bool) (w : World) (ha : inB a = true) (hb : inB b = true) (hc : inB c = true)
    (a1 : -1125899906842624 ≤ a) (a2 : a ≤ 1125899906842624) (b1 : -1125899906842624 ≤ b) (b2 : b ≤ 1125899906842624) (c1 : -1125899906842624 ≤ c) (c2 : c ≤ 1125899906842624) (hz' : (c == 0) = false)
    (hd1 : 1 ≤ (c.natAbs : Int)) (hn : (n : Int) ≤ 4503599627370496) (HD : Hid (DivAt a b c n r)) (da : decide (a < 0) = x) (db : decide (b < 0) = y) (dc : decide (c < 0) = z) (hr : r = 0) :
    Calls Try.prog 45 #[.int .i64 a, .int .i64 b, .int .i64 c, .int .i64 1] w fun e w' => e = .returned (.tuple #[.int .i64 (okV (sg ((x != y) != z) (n + 0))), .int .i64 (okE (sg ((x != y) != z) (n + 0)))]) ∧ Below w.heap.size w w' := by
  subst hr
  cases x
  all_goals cases y
  all_goals cases z
  all_goals simp only [bne_self_eq_false, Bool.true_bne, Bool.false_bne, Bool.not_true, Bool.not_false, Bool.bne_true, Bool.bne_false, Bool.false_eq_true, if_true, if_false, Nat.add_zero]
  all_goals
    go_enter Try.func45, Try.ntmps45
    go_wp2_with (first | (go_at_call 61; refine (ref_in _ _).mono ?_; rintro e w' ⟨rfl, rfl⟩) | (go_at_call 63; refine (ref_abs _ _ (by omega) (by omega)).mono ?_; rintro e w' ⟨rfl, rfl⟩) | (go_at_call 62; refine (HD.out _).mono ?_; rintro e w1 ⟨rfl, hb1⟩) | (go_at_call 64; refine (ref_result _ _).mono ?_; rintro e w' ⟨rfl, rfl⟩))
    go_ret2
    exact ⟨ret_two (by simp [sg]) (by simp [sg]), hb1⟩

set_option maxHeartbeats 1000000 in
theorem ref_md_z2 (a b c : Int) (n r : Nat) (x y z : Bool) (w : World) (ha : inB a = true) (hb : inB b = true) (hc : inB c = true)
    (a1 : -1125899906842624 ≤ a) (a2 : a ≤ 1125899906842624) (b1 : -1125899906842624 ≤ b) (b2 : b ≤ 1125899906842624) (c1 : -1125899906842624 ≤ c) (c2 : c ≤ 1125899906842624) (hz' : (c == 0) = false)
    (hd1 : 1 ≤ (c.natAbs : Int)) (hn : (n : Int) ≤ 4503599627370496) (HD : Hid (DivAt a b c n r)) (da : decide (a < 0) = x) (db : decide (b < 0) = y) (dc : decide (c < 0) = z) (hr : r = 0) :
    Calls Try.prog 45 #[.int .i64 a, .int .i64 b, .int .i64 c, .int .i64 2] w fun e w' => e = .returned (.tuple #[.int .i64 (okV (sg ((x != y) != z) (n + 0))), .int .i64 (okE (sg ((x != y) != z) (n + 0)))]) ∧ Below w.heap.size w w' := by
  subst hr
  cases x
  all_goals cases y
  all_goals cases z
  all_goals simp only [bne_self_eq_false, Bool.true_bne, Bool.false_bne, Bool.not_true, Bool.not_false, Bool.bne_true, Bool.bne_false, Bool.false_eq_true, if_true, if_false, Nat.add_zero]
  all_goals
    go_enter Try.func45, Try.ntmps45
    go_wp2_with (first | (go_at_call 61; refine (ref_in _ _).mono ?_; rintro e w' ⟨rfl, rfl⟩) | (go_at_call 63; refine (ref_abs _ _ (by omega) (by omega)).mono ?_; rintro e w' ⟨rfl, rfl⟩) | (go_at_call 62; refine (HD.out _).mono ?_; rintro e w1 ⟨rfl, hb1⟩) | (go_at_call 64; refine (ref_result _ _).mono ?_; rintro e w' ⟨rfl, rfl⟩))
    go_ret2
    exact ⟨ret_two (by simp [sg]) (by simp [sg]), hb1⟩

end Go.Proofs.Ytgomokdklajlcaa.Num
/- The contract of MulDiv of the reference, more of its ways. -/
namespace Go.Proofs.Ytgomokdklajlcaa.Num
open Go.ChangeShapes Go.WideShapes Go.RowKit
set_option linter.unusedVariables false
set_option linter.unusedSimpArgs false

set_option maxHeartbeats 1000000 in
theorem ref_md_m0 (a b c : Int) (n r : Nat) (x y z : Bool) (w : World) (ha : inB a = true) (hb : inB b = true) (hc : inB c = true)
    (a1 : -1125899906842624 ≤ a) (a2 : a ≤ 1125899906842624) (b1 : -1125899906842624 ≤ b) (b2 : b ≤ 1125899906842624) (c1 : -1125899906842624 ≤ c) (c2 : c ≤ 1125899906842624) (hz' : (c == 0) = false)
    (hd1 : 1 ≤ (c.natAbs : Int)) (hn : (n : Int) ≤ 4503599627370496) (HD : Hid (DivAt a b c n r)) (da : decide (a < 0) = x) (db : decide (b < 0) = y) (dc : decide (c < 0) = z) (hr : 1 ≤ (r : Int)) (hr2 : (r : Int) ≤ 1125899906842624) :
    Calls Try.prog 45 #[.int .i64 a, .int .i64 b, .int .i64 c, .int .i64 0] w fun e w' => e = .returned (.tuple #[.int .i64 (okV (sg ((x != y) != z) (n + (if ((x != y) != z) then 1 else 0)))), .int .i64 (okE (sg ((x != y) != z) (n + (if ((x != y) != z) then 1 else 0))))]) ∧ Below w.heap.size w w' := by
  cases x
  all_goals cases y
  all_goals cases z
  all_goals simp only [bne_self_eq_false, Bool.true_bne, Bool.false_bne, Bool.not_true, Bool.not_false, Bool.bne_true, Bool.bne_false, Bool.false_eq_true, if_true, if_false, Nat.add_zero]
  all_goals
    go_enter Try.func45, Try.ntmps45
    go_wp2_with (first | (go_at_call 61; refine (ref_in _ _).mono ?_; rintro e w' ⟨rfl, rfl⟩) | (go_at_call 63; refine (ref_abs _ _ (by omega) (by omega)).mono ?_; rintro e w' ⟨rfl, rfl⟩) | (go_at_call 62; refine (HD.out _).mono ?_; rintro e w1 ⟨rfl, hb1⟩) | (go_at_call 64; refine (ref_result _ _).mono ?_; rintro e w' ⟨rfl, rfl⟩))
    go_ret2
    exact ⟨ret_two (by simp [sg]) (by simp [sg]), hb1⟩

set_option maxHeartbeats 1000000 in
theorem ref_md_m1 (a b c : Int) (n r : Nat) (x y z : Bool) (w : World) (ha : inB a = true) (hb : inB b = true) (hc : inB c = true)
    (a1 : -1125899906842624 ≤ a) (a2 : a ≤ 1125899906842624) (b1 : -1125899906842624 ≤ b) (b2 : b ≤ 1125899906842624) (c1 : -1125899906842624 ≤ c) (c2 : c ≤ 1125899906842624) (hz' : (c == 0) = false)
    (hd1 : 1 ≤ (c.natAbs : Int)) (hn : (n : Int) ≤ 4503599627370496) (HD : Hid (DivAt a b c n r)) (da : decide (a < 0) = x) (db : decide (b < 0) = y) (dc : decide (c < 0) = z) (hr : 1 ≤ (r : Int)) (hr2 : (r : Int) ≤ 1125899906842624) :
    Calls Try.prog 45 #[.int .i64 a, .int .i64 b, .int .i64 c, .int .i64 1] w fun e w' => e = .returned (.tuple #[.int .i64 (okV (sg ((x != y) != z) (n + (if !((x != y) != z) then 1 else 0)))), .int .i64 (okE (sg ((x != y) != z) (n + (if !((x != y) != z) then 1 else 0))))]) ∧ Below w.heap.size w w' := by
  cases x
  all_goals cases y
  all_goals cases z
  all_goals simp only [bne_self_eq_false, Bool.true_bne, Bool.false_bne, Bool.not_true, Bool.not_false, Bool.bne_true, Bool.bne_false, Bool.false_eq_true, if_true, if_false, Nat.add_zero]
  all_goals
    go_enter Try.func45, Try.ntmps45
    go_wp2_with (first | (go_at_call 61; refine (ref_in _ _).mono ?_; rintro e w' ⟨rfl, rfl⟩) | (go_at_call 63; refine (ref_abs _ _ (by omega) (by omega)).mono ?_; rintro e w' ⟨rfl, rfl⟩) | (go_at_call 62; refine (HD.out _).mono ?_; rintro e w1 ⟨rfl, hb1⟩) | (go_at_call 64; refine (ref_result _ _).mono ?_; rintro e w' ⟨rfl, rfl⟩))
    go_ret2
    exact ⟨ret_two (by simp [sg]) (by simp [sg]), hb1⟩

set_option maxHeartbeats 1000000 in
theorem ref_md_gt (a b c : Int) (n r : Nat) (x y z : Bool) (w : World) (ha : inB a = true) (hb : inB b = true) (hc : inB c = true)
    (a1 : -1125899906842624 ≤ a) (a2 : a ≤ 1125899906842624) (b1 : -1125899906842624 ≤ b) (b2 : b ≤ 1125899906842624) (c1 : -1125899906842624 ≤ c) (c2 : c ≤ 1125899906842624) (hz' : (c == 0) = false)
    (hd1 : 1 ≤ (c.natAbs : Int)) (hn : (n : Int) ≤ 4503599627370496) (HD : Hid (DivAt a b c n r)) (da : decide (a < 0) = x) (db : decide (b < 0) = y) (dc : decide (c < 0) = z) (hr : 1 ≤ (r : Int)) (hr2 : (r : Int) ≤ 1125899906842624) (hg : (c.natAbs : Int) < 2 * r) :
    Calls Try.prog 45 #[.int .i64 a, .int .i64 b, .int .i64 c, .int .i64 2] w fun e w' => e = .returned (.tuple #[.int .i64 (okV (sg ((x != y) != z) (n + 1))), .int .i64 (okE (sg ((x != y) != z) (n + 1)))]) ∧ Below w.heap.size w w' := by
  cases x
  all_goals cases y
  all_goals cases z
  all_goals simp only [bne_self_eq_false, Bool.true_bne, Bool.false_bne, Bool.not_true, Bool.not_false, Bool.bne_true, Bool.bne_false, Bool.false_eq_true, if_true, if_false, Nat.add_zero]
  all_goals
    go_enter Try.func45, Try.ntmps45
    go_wp2_with (first | (go_at_call 61; refine (ref_in _ _).mono ?_; rintro e w' ⟨rfl, rfl⟩) | (go_at_call 63; refine (ref_abs _ _ (by omega) (by omega)).mono ?_; rintro e w' ⟨rfl, rfl⟩) | (go_at_call 62; refine (HD.out _).mono ?_; rintro e w1 ⟨rfl, hb1⟩) | (go_at_call 64; refine (ref_result _ _).mono ?_; rintro e w' ⟨rfl, rfl⟩))
    go_ret2
    exact ⟨ret_two (by simp [sg]) (by simp [sg]), hb1⟩

end Go.Proofs.Ytgomokdklajlcaa.Num
