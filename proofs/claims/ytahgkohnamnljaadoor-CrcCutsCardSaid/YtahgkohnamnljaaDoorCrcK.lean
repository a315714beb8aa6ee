/- Walks of CrcParts, CrcAlls, CrcFrames, CrcCuts. -/
import Derived.Test.YtahgkohnamnljaaDoorCrcJ
namespace Go.Proofs.YtahgkohnamnljaaDoor.Crc
open Go.ChangeShapes Go.WideShapes Go.RowKit
open Wire (Byt InY OwnY below_alloc lt_get bstep get_lt ret_int ret_bool wrap_id byte_of in_lit in_y append_own encI encI_pos encI_ten len_isI)
set_option linter.unusedVariables false
set_option maxRecDepth 100000

set_option maxHeartbeats 1600000 in
theorem walk_CrcParts (w : World) (A : Option Addr) (n c : Nat) (zs : List Int) (h : InInts .u8 w A n c zs) (A' : Option Addr) (n' c' : Nat) (zs' : List Int) (h' : InInts .u8 w A' n' c' zs') (ht : Tab w) :
    Calls Tryd.prog 7 #[.slice A n c, .slice A' n' c'] w fun e w' => e = .returned (.bool true) ∧ Below w.heap.size w w' := by
  obtain ⟨l, rfl, hy⟩ := in_y h
  obtain ⟨r, rfl, hy'⟩ := in_y h'
  have hs := hy.small
  have hs' := hy'.small
  have HY := Lib.hid hy
  have HY' := Lib.hid hy'
  have HT := Lib.hid ht
  clear h hy h' hy' ht
  rcases Nat.lt_or_ge 4000 l.length with hb | hb
  · have hb1 : (4000 : Int) < (l.length : Int) := by omega
    go_enter Tryd.func7, Tryd.ntmps7
    go_wp2_with fail
    refine (awake_true w HT.out).mono ?_
    rintro ez wz ⟨rfl, hbz⟩
    have HBZ := Lib.hid hbz
    clear hbz
    go_wp2_with fail
    go_ret
    exact ⟨rfl, HBZ.out⟩
  · have hb1 : decide ((4000 : Int) < (l.length : Int)) = false := decide_eq_false (by omega)
    rcases Nat.lt_or_ge 4000 r.length with hc | hc
    · have hc1 : (4000 : Int) < (r.length : Int) := by omega
      go_enter Tryd.func7, Tryd.ntmps7
      go_wp2_with fail
      refine (awake_true w HT.out).mono ?_
      rintro ez wz ⟨rfl, hbz⟩
      have HBZ := Lib.hid hbz
      clear hbz
      go_wp2_with fail
      go_ret
      exact ⟨rfl, HBZ.out⟩
    · have hc1 : decide ((4000 : Int) < (r.length : Int)) = false := decide_eq_false (by omega)
      obtain ⟨_, _, e0, _, _, hby⟩ := HY.out
      cases e0
      obtain ⟨_, _, e0, _, _, hby'⟩ := HY'.out
      cases e0
      have HA := Lib.hid hby
      have HA' := Lib.hid hby'
      have HL := Lib.hid hb
      have HR := Lib.hid hc
      clear hb hc hby hby'
      go_enter Tryd.func7, Tryd.ntmps7
      go_wp2_with (at_builtin; refine append_own rfl _ _ rfl w.heap.size (.slice none 0 0) [] rfl (OwnY.nil _ _) A c l l.length rfl rfl HA.out (by have := HL.out; simp; omega) (Nat.le_refl _) ?_; intro v1 w1 hown1 hb1; refine Hid.out ?_)
      refine Lib.hid ?_
      have HO1 := Lib.hid hown1
      have HB1 := Lib.hid hb1
      clear hown1 hb1
      go_wp2_with (at_builtin; refine append_own rfl _ _ rfl w.heap.size v1 ([] ++ l) rfl HO1.out A' c' r r.length rfl rfl (HA'.out.on HB1.out) (by have := HL.out; have := HR.out; simp; omega) HB1.out.size ?_; intro v2 w2 hown2 hb2; refine Hid.out ?_)
      refine Lib.hid ?_
      have HO2 := Lib.hid hown2.inY
      have HB2 := Lib.hid (HB1.out.trans hb2)
      clear hown2 hb2
      obtain ⟨S, hS⟩ : ∃ S, S = chk (l ++ r) := ⟨_, rfl⟩
      obtain ⟨T, hT⟩ : ∃ T, T = chk l := ⟨_, rfl⟩
      have HTB := Lib.hid (HT.out.on HB2.out)
      have H1 := Lib.hid (sum_is (l := [] ++ l ++ r) (s := S) (by rw [List.nil_append, hS]) (by have := HL.out; have := HR.out; simp; omega) v2 w2 HO2.out HTB.out)
      have H2 := Lib.hid (sum_is (l := l) (s := T) hT.symm (by have := HL.out; omega) _ w2 (HY.out.on HB2.out) HTB.out)
      have H3 := Lib.hid (crc_Extend T _ r w2 (hT ▸ chk_lt l) (HY'.out.on HB2.out) (by have := HR.out; omega) HTB.out)
      rw [show extS T r = S by rw [hT, hS, chk_append]] at H3
      have H4 := Lib.hid (crc_Extend S _ [] w2 (hS ▸ chk_lt _) (InY.nil w2) (by simp) HTB.out)
      rw [extS_nil] at H4
      clear hS hT
      go_wp2_with fail
      refine H1.out.mono ?_
      rintro e1 wx ⟨rfl, rfl⟩
      go_wp2_with fail
      refine H2.out.mono ?_
      rintro e1 wx ⟨rfl, rfl⟩
      go_wp2_with fail
      refine H3.out.mono ?_
      rintro e1 wx ⟨rfl, rfl⟩
      go_wp2_with fail
      refine H1.out.mono ?_
      rintro e1 wx ⟨rfl, rfl⟩
      go_wp2_with fail
      refine H4.out.mono ?_
      rintro e1 wx ⟨rfl, rfl⟩
      go_wp2_with fail
      refine H1.out.mono ?_
      rintro e1 wx ⟨rfl, rfl⟩
      go_wp2_with fail
      refine (awake_true w2 HTB.out).mono ?_
      rintro ez wz ⟨rfl, hbz⟩
      have HBZ := Lib.hid (bstep HB2.out hbz)
      clear hbz
      go_wp2_with fail
      go_ret
      exact ⟨rfl, HBZ.out⟩
set_option maxHeartbeats 1600000 in
theorem walk_CrcAlls (w : World) (A : Option Addr) (n c : Nat) (zs : List Int) (h : InInts .u8 w A n c zs) (ht : Tab w) :
    Calls Tryd.prog 6 #[.slice A n c] w fun e w' => e = .returned (.bool true) ∧ Below w.heap.size w w' := by
  obtain ⟨l, rfl, hy⟩ := in_y h
  have hs := hy.small
  have HY := Lib.hid hy
  have HT := Lib.hid ht
  clear h hy ht
  rcases Nat.lt_or_ge 4000 l.length with hb | hb
  · have hb1 : (4000 : Int) < (l.length : Int) := by omega
    go_enter Tryd.func6, Tryd.ntmps6
    go_wp2_with fail
    refine (awake_true w HT.out).mono ?_
    rintro ez wz ⟨rfl, hbz⟩
    have HBZ := Lib.hid hbz
    clear hbz
    go_wp2_with fail
    go_ret
    exact ⟨rfl, HBZ.out⟩
  · have hb1 : decide ((4000 : Int) < (l.length : Int)) = false := decide_eq_false (by omega)
    have H1 := Lib.hid (crc_All _ l w HY.out (by omega) HT.out)
    have H2 := Lib.hid (fun W hW => ref_All _ l W (HY.out.on hW) (by omega))
    obtain ⟨t, ht⟩ : ∃ t, allR l = t := ⟨_, rfl⟩
    rw [ht] at H1 H2
    obtain ⟨M, k⟩ := t
    clear ht
    go_enter Tryd.func6, Tryd.ntmps6
    go_wp2_with fail
    refine H1.out.mono ?_
    rintro e1 w1 ⟨v1, rfl, ho1, hb1⟩
    have HO1 := Lib.hid ho1
    have HB1 := Lib.hid hb1
    clear ho1 hb1
    go_wp2_with fail
    refine (H2.out w1 HB1.out).mono ?_
    rintro e1 w2 ⟨v2, rfl, ho2, hb2⟩
    obtain ⟨A1, c1, rfl, _, hm1, hg1⟩ := (HO1.out.on hb2).grd
    obtain ⟨A2, c2, rfl, hn2, hm2, hg2⟩ := ho2.grd
    have HG1 := Lib.hid hg1
    have HG2 := Lib.hid hg2
    have HB2 := Lib.hid (bstep HB1.out hb2)
    obtain ⟨N, hN⟩ : ∃ N, N = M.length := ⟨_, rfl⟩
    have HN := Lib.hid hN
    simp only at *
    rw [← hN] at hn2 ⊢
    have hNm : N ≤ 9223372036854775807 := by unfold maxLen at hm2; omega
    have hne : (N != N) = false := by simp
    clear ho2 hb2 hg1 hg2 hm1 hm2 hn2 hN HO1
    go_wp2_with fail
    go_loopw [7] (fun i wr => ∃ k n : Nat, k ≤ M.length ∧ i = .int .i64 (k : Int) ∧ wr = w2.drewN n) (fun i _ => N - (intOf i).toNat)
    case atStart => exact ⟨0, 0, Nat.zero_le _, rfl, rfl⟩
    case round =>
      obtain ⟨i, n, hi, rfl, hw⟩ := hrel
      rw [← HN.out] at hi
      have HW := Lib.hid hw
      have HWB : Hid (Below w2.heap.size w2 wr) := by rw [hw]; exact below_drewN (Below.refl _ _) n
      clear hw
      rcases Nat.lt_or_ge i N with hlt | hge
      · obtain ⟨x, hx⟩ := get_lt (L := M) (k := i) (by rw [← HN.out]; exact hlt)
        obtain ⟨b1, off1, rfl, hl1, A3, c3, hc3, g1, g2, g3⟩ := (HG1.out.on HWB.out) i x hx
        obtain ⟨b2, off2, rfl, hl2, A4, c4, hc4, f1, f2, f3⟩ := (HG2.out.on HWB.out) i x hx
        obtain ⟨L, hL⟩ : ∃ L, L = x.length := ⟨_, rfl⟩
        have HC : Hid (∀ m, Calls Tryd.prog 19 #[.slice A3 L c3, .slice A4 L c4] (wr.drewN m) fun e w' => e = .returned (.bool true) ∧ ∃ n', w' = wr.drewN n') :=
          fun m => by
            refine (ref_EqN _ _ x x _ (InY.on (w := wr) ⟨A3, c3, by rw [hL], g1, g2, g3⟩ (below_drewN (Below.refl _ _) m)) (InY.on (w := wr) ⟨A4, c4, by rw [hL], f1, f2, f3⟩ (below_drewN (Below.refl _ _) m))).mono ?_
            rintro e w' ⟨rfl, n', rfl⟩
            exact ⟨by rw [decide_eq_true rfl], m + n', by rw [World.drewN_drewN]⟩
        rw [← hL] at hc3 hc4
        clear hx g1 g2 g3 f1 f2 f3 hL
        go_wp2_with fail
        go_quiet ((go_at_call 19; (with_reducible exact HC.out _)))
        go_wp2_with fail
        go_roundw
        case rel => exact ⟨i + 1, _, by rw [← HN.out]; omega, by go_num, by rw [HW.out, World.drewN_drewN]⟩
        case measure => simp [intOf]; omega
      · obtain rfl : i = N := by omega
        have HB3 := Lib.hid (bstep HB2.out HWB.out)
        clear hge
        go_wp2_with fail
        refine (awake_true wr (HT.out.on HB3.out)).mono ?_
        rintro ez wz ⟨rfl, hbz⟩
        have HBZ := Lib.hid (bstep HB3.out hbz)
        clear hbz
        go_wp2_with fail
        go_ret
        exact ⟨rfl, HBZ.out⟩
def rep (l : List UInt8) : Nat → List UInt8
  | 0 => []
  | k + 1 => rep l k ++ l
theorem rep_len (l : List UInt8) (k : Nat) : (rep l k).length = k * l.length := by
  induction k with
  | zero => simp [rep]
  | succ k ih => rw [rep, List.length_append, ih, Nat.succ_mul]
theorem rep_le {l : List UInt8} {k : Nat} (h : l.length ≤ 400) (hk : k ≤ 400) : (rep l k).length ≤ 160000 := by
  rw [rep_len]; exact Nat.mul_le_mul hk h
def Rp (l : List UInt8) (m : Nat) (w : World) (v i : Value) (wr : World) : Prop := ∃ k : Nat, i = .int .i64 (k : Int) ∧ k ≤ m ∧ OwnY w.heap.size wr v (rep l k) ∧ Below w.heap.size w wr
set_option maxHeartbeats 1600000 in
theorem walk_CrcFrames (w : World) (A : Option Addr) (n c : Nat) (zs : List Int) (h : InInts .u8 w A n c zs) (m : Int) (hm : (Lit.int .u16 m).wf = true) (ht : Tab w) :
    Calls Tryd.prog 4 #[.slice A n c, .int .u16 m] w fun e w' => e = .returned (.bool true) ∧ Below w.heap.size w w' := by
  obtain ⟨l, rfl, hy⟩ := in_y h
  obtain ⟨m, rfl, hm2⟩ := wf_u16 hm
  have hs := hy.small
  have HY := Lib.hid hy
  have HT := Lib.hid ht
  clear h hy ht hm
  rcases Nat.lt_or_ge 400 l.length with hb | hb
  · have hb1 : (400 : Int) < (l.length : Int) := by omega
    go_enter Tryd.func4, Tryd.ntmps4
    go_wp2_with fail
    refine (awake_true w HT.out).mono ?_
    rintro ez wz ⟨rfl, hbz⟩
    have HBZ := Lib.hid hbz
    clear hbz
    go_wp2_with fail
    go_ret
    exact ⟨rfl, HBZ.out⟩
  · have hb1 : decide ((400 : Int) < (l.length : Int)) = false := decide_eq_false (by omega)
    rcases Nat.lt_or_ge 400 m with hc | hc
    · have hc1 : (400 : Int) < (m : Int) := by omega
      go_enter Tryd.func4, Tryd.ntmps4
      go_wp2_with fail
      refine (awake_true w HT.out).mono ?_
      rintro ez wz ⟨rfl, hbz⟩
      have HBZ := Lib.hid hbz
      clear hbz
      go_wp2_with fail
      go_ret
      exact ⟨rfl, HBZ.out⟩
    · have hc1 : decide ((400 : Int) < (m : Int)) = false := decide_eq_false (by omega)
      obtain ⟨_, _, e0, _, _, hby⟩ := HY.out
      cases e0
      have HA := Lib.hid hby
      have HL := Lib.hid hb
      have HM := Lib.hid hc
      clear hb hby
      go_enter Tryd.func4, Tryd.ntmps4
      go_wp2_with fail
      go_loopw [5, 6] (Rp l m w) (fun _ i _ => m - (intOf i).toNat)
      case atStart => exact ⟨0, rfl, Nat.zero_le _, OwnY.nil _ _, Below.refl _ _⟩
      case round =>
        obtain ⟨k, rfl, hk, ho, hb'⟩ := hrel
        have HO := Lib.hid ho
        have HB := Lib.hid hb'
        clear ho hb'
        rcases Nat.lt_or_ge k m with hlt | hge
        · go_wp2_with (at_builtin; refine append_own rfl _ _ rfl w.heap.size u5 (rep l k) rfl HO.out A c l l.length rfl rfl (HA.out.on HB.out) (by have := HL.out; have := rep_le HL.out (k := k) (by have := HM.out; omega); omega) HB.out.size ?_; intro v2 w2 hown2 hb2; refine Hid.out ?_)
          refine Lib.hid ?_
          have HO2 := Lib.hid hown2
          have HB2 := Lib.hid (HB.out.trans hb2)
          clear hown2 hb2
          go_wp2_with fail
          go_roundw
          case rel => exact ⟨k + 1, by go_num, by omega, HO2.out, HB2.out⟩
          case measure => simp [intOf]; omega
        · obtain rfl : k = m := by omega
          obtain ⟨L, hL⟩ : ∃ L, L = rep l k := ⟨_, rfl⟩
          have hLl : L.length ≤ 160000 := by rw [hL]; exact rep_le HL.out HM.out
          rw [← hL] at HO
          have HI := Lib.hid HO.out.inY
          have P1 := Lib.hid (crc_Frame u5 L wr HI.out (by omega) (HT.out.on HB.out))
          have P2 := Lib.hid (fun W hW => ref_Frame u5 L W (HI.out.on hW) (by omega))
          unfold FRes at P1 P2
          obtain ⟨x, hx⟩ : ∃ x, x = frmL L := ⟨_, rfl⟩
          obtain ⟨e0, he0⟩ : ∃ e0, e0 = frmE L := ⟨_, rfl⟩
          rw [← hx, ← he0] at P1 P2
          clear hL hLl hx he0 hge
          go_wp2_with fail
          refine P1.out.mono ?_
          rintro e1 w1 ⟨v1, rfl, hn1, hb1⟩
          have HN1 := Lib.hid hn1.inY
          have HC1 := Lib.hid hb1
          clear hn1 hb1
          go_wp2_with fail
          refine (P2.out w1 HC1.out).mono ?_
          rintro e1 w2 ⟨v2, rfl, hn2, hb2⟩
          have HN2 := Lib.hid hn2.inY
          have HN1b := Lib.hid (HN1.out.on hb2)
          have HC2 := Lib.hid (bstep HC1.out hb2)
          clear hn2 hb2
          go_wp2_with fail
          refine (same_yes _ _ w2 HN1b.out HN2.out).mono ?_
          rintro e1 w3 ⟨rfl, hb3⟩
          have HB3 := Lib.hid (bstep HB.out (bstep HC2.out hb3))
          clear hb3
          go_wp2_with fail
          refine (awake_true w3 (HT.out.on HB3.out)).mono ?_
          rintro ez wz ⟨rfl, hbz⟩
          have HBZ := Lib.hid (bstep HB3.out hbz)
          clear hbz
          go_wp2_with fail
          go_ret
          exact ⟨rfl, HBZ.out⟩
theorem frame_ge (l : List UInt8) : 5 ≤ (frame l).length := by
  have := encI_pos (l.length : Int)
  unfold frame; simp only [List.length_append, four_len]; omega
set_option maxHeartbeats 1600000 in
theorem walk_CrcCuts (w : World) (A : Option Addr) (n c : Nat) (zs : List Int) (h : InInts .u8 w A n c zs) (m : Int) (hm : (Lit.int .u16 m).wf = true) (ht : Tab w) :
    Calls Tryd.prog 11 #[.slice A n c, .int .u16 m] w fun e w' => e = .returned (.bool true) ∧ Below w.heap.size w w' := by
  obtain ⟨l, rfl, hy⟩ := in_y h
  obtain ⟨m, rfl, hm2⟩ := wf_u16 hm
  have hs := hy.small
  have HY := Lib.hid hy
  have HT := Lib.hid ht
  clear h hy ht hm
  rcases Nat.lt_or_ge 4000 l.length with hb | hb
  · have hb1 : (4000 : Int) < (l.length : Int) := by omega
    go_enter Tryd.func11, Tryd.ntmps11
    go_wp2_with fail
    refine (awake_true w HT.out).mono ?_
    rintro ez wz ⟨rfl, hbz⟩
    have HBZ := Lib.hid hbz
    clear hbz
    go_wp2_with fail
    go_ret
    exact ⟨rfl, HBZ.out⟩
  · have hb1 : decide ((4000 : Int) < (l.length : Int)) = false := decide_eq_false (by omega)
    have H1 := Lib.hid (frame_is (l := l) (by omega) rfl _ w HY.out HT.out)
    have HFL := Lib.hid (frame_len (l := l) (by omega))
    have HCUT := fun j hj => Lib.hid (open_cut (l := l) (j := j) (by omega) hj)
    have HL := Lib.hid hb
    clear hb
    go_enter Tryd.func11, Tryd.ntmps11
    go_wp2_with fail
    refine H1.out.mono ?_
    rintro e1 w1 ⟨v1, rfl, hn1, hb1⟩
    obtain ⟨A1, c1, rfl, hc1, hm1, hby⟩ := hn1.inY
    have HBY := Lib.hid hby
    have HB1 := Lib.hid hb1
    have HM1 := Lib.hid hm1
    obtain ⟨F, hF⟩ : ∃ F, F = (frame l).length := ⟨_, rfl⟩
    have HF := Lib.hid hF
    have hF5 : 5 ≤ F := by rw [hF]; exact frame_ge l
    have hF5' : decide ((F : Int) < 5) = false := decide_eq_false (by omega)
    have hFm : F ≤ 5000 := by have := HFL.out; have := HL.out; omega
    rw [← hF] at hc1 ⊢
    obtain ⟨J, hJ⟩ : ∃ J, J = m % F := ⟨_, rfl⟩
    have hJ1 : (m : Int) % (F : Int) = (J : Int) := by rw [hJ]; simp
    have hJF : J < F := by rw [hJ]; exact Nat.mod_lt _ (by omega)
    have hF0 : ¬ F = 0 := by omega
    have hsl := fun W => Wire.slice_to A1 F c1 J (by omega) W
    have HIJ : Hid (InY w1 (.slice A1 J c1) ((frame l).take J)) := by
      have hlen : ((frame l).take J).length = J := by rw [List.length_take, ← hF]; omega
      exact ⟨A1, c1, by rw [hlen], by rw [hlen]; omega, hm1, hby.take J⟩
    have HOP := Lib.hid (open_is (HCUT J (by rw [← hF]; exact hJF)).out (by rw [List.length_take]; omega) _ w1 HIJ.out (HT.out.on hb1))
    clear hn1 hb1 hby hF hJ hm1 HCUT
    go_wp2_with fail
    refine HOP.out.mono ?_
    rintro e2 w2 ⟨v2, rfl, hn2, hb2⟩
    obtain ⟨A2, c2, rfl, _⟩ := hn2
    have HB2 := Lib.hid (bstep HB1.out hb2)
    clear hb2
    go_wp2_with fail
    refine (awake_true w2 (HT.out.on HB2.out)).mono ?_
    rintro ez wz ⟨rfl, hbz⟩
    have HBZ := Lib.hid (bstep HB2.out hbz)
    clear hbz
    go_wp2_with fail
    go_ret
    exact ⟨rfl, HBZ.out⟩
#print axioms walk_CrcParts
#print axioms walk_CrcAlls
#print axioms walk_CrcFrames
#print axioms walk_CrcCuts
end Go.Proofs.YtahgkohnamnljaaDoor.Crc
