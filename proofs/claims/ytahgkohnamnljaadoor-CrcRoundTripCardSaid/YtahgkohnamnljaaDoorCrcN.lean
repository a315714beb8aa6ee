/- The walk of CrcRoundTrip. -/
import Derived.Test.YtahgkohnamnljaaDoorCrcK
namespace Go.Proofs.YtahgkohnamnljaaDoor.Crc
open Go.ChangeShapes Go.WideShapes Go.RowKit
open Wire (Byt InY OwnY below_alloc lt_get bstep get_lt ret_int ret_bool wrap_id byte_of in_lit in_y append_own encI encI_pos encI_ten len_isI)
set_option linter.unusedVariables false
set_option maxRecDepth 100000

theorem frames_len (L : List (List UInt8)) (h : ∀ c ∈ L, c.length ≤ 600) : (frames L).length ≤ L.length * 620 := by
  induction L with
  | nil => simp [frames]
  | cons c L ih =>
    have h1 := ih fun d hd => h d (List.mem_cons_of_mem _ hd)
    have h2 := h c (List.mem_cons_self ..)
    have h3 := frame_len (l := c) (by omega)
    rw [frames, List.length_append, List.length_cons, Nat.succ_mul]; omega
theorem frames_next (M : List (List UInt8)) {k : Nat} {x : List UInt8} (h : M[k]? = some x) : frames (M.take (k + 1)) = frames (M.take k) ++ frame x := by
  rw [Wire.take_snoc_of h, frames_append]
  simp [frames]
theorem small_next {M : List (List UInt8)} {k : Nat} {x : List UInt8} (h : M[k]? = some x) (hx : x.length ≤ 600) (hs : ∀ c ∈ M.take k, c.length ≤ 600) : ∀ c ∈ M.take (k + 1), c.length ≤ 600 := by
  rw [Wire.take_snoc_of h]
  intro c hc
  rcases List.mem_append.mp hc with h1 | h1
  · exact hs c h1
  · rw [List.mem_singleton.mp h1]; exact hx
/-- The rounds of the first loop. -/
def Rt (M : List (List UInt8)) (w : World) (v i : Value) (wr : World) : Prop :=
  ∃ k : Nat, i = .int .i64 (k : Int) ∧ k ≤ M.length ∧ (∀ c ∈ M.take k, c.length ≤ 600) ∧ OwnY w.heap.size wr v (frames (M.take k)) ∧ Below w.heap.size w wr
set_option maxHeartbeats 6400000 in
theorem walk_CrcRoundTrip (w : World) (A : Option Addr) (c : Nat) (M : List (List UInt8)) (hg : Grd w A M) (hm : M.length ≤ 9223372036854775807) (A' : Option Addr) (n' c' : Nat) (zs' : List Int) (h' : InInts .u8 w A' n' c' zs') (ht : Tab w) :
    Calls Tryd.prog 8 #[.slice A M.length c, .slice A' n' c'] w fun e w' => e = .returned (.bool true) ∧ Below w.heap.size w w' := by
  obtain ⟨r, rfl, hy⟩ := in_y h'
  have hs := hy.small
  have HY := Lib.hid hy
  have HT := Lib.hid ht
  have HG := Lib.hid hg
  obtain ⟨N, hN⟩ : ∃ N, N = M.length := ⟨_, rfl⟩
  have HN := Lib.hid hN
  rw [← hN] at hm ⊢
  clear h' hy ht hg hN
  rcases Nat.lt_or_ge 20 N with hb | hb
  · have hb1 : (20 : Int) < (N : Int) := by omega
    go_enter Tryd.func8, Tryd.ntmps8
    go_wp2_with fail
    refine (awake_true w HT.out).mono ?_
    rintro ez wz ⟨rfl, hbz⟩
    have HBZ := Lib.hid hbz
    clear hbz
    go_wp2_with fail
    go_ret
    exact ⟨rfl, HBZ.out⟩
  · have hb1 : decide ((20 : Int) < (N : Int)) = false := decide_eq_false (by omega)
    rcases Nat.lt_or_ge 600 r.length with hc | hc
    · have hc1 : (600 : Int) < (r.length : Int) := by omega
      go_enter Tryd.func8, Tryd.ntmps8
      go_wp2_with fail
      refine (awake_true w HT.out).mono ?_
      rintro ez wz ⟨rfl, hbz⟩
      have HBZ := Lib.hid hbz
      clear hbz
      go_wp2_with fail
      go_ret
      exact ⟨rfl, HBZ.out⟩
    · have hc1 : decide ((600 : Int) < (r.length : Int)) = false := decide_eq_false (by omega)
      obtain ⟨_, _, e0, _, _, hby⟩ := HY.out
      cases e0
      have HA := Lib.hid hby
      obtain ⟨R, hR⟩ : ∃ R, R = r.length := ⟨_, rfl⟩
      have HR := Lib.hid hR
      rw [← hR] at hs hc hc1 ⊢
      have HNL := Lib.hid hb
      have HRL := Lib.hid hc
      clear hb hc hby hR
      go_enter Tryd.func8, Tryd.ntmps8
      go_wp2_with fail
      go_loopw [5, 6] (Rt M w) (fun _ i _ => N - (intOf i).toNat)
      case atStart => exact ⟨0, rfl, Nat.zero_le _, fun c hc => by simp at hc, OwnY.nil _ _, Below.refl _ _⟩
      case round =>
        obtain ⟨k, rfl, hk, hsm, ho, hbel⟩ := hrel
        rw [← HN.out] at hk
        have HSM := Lib.hid hsm
        have HO := Lib.hid ho
        have HB := Lib.hid hbel
        have HBR : Hid (w.heap.size ≤ wr.heap.size) := hbel.size
        clear hsm ho hbel
        rcases Nat.lt_or_ge k N with hlt | hge
        · obtain ⟨x, hx⟩ := get_lt (L := M) (k := k) (by rw [← HN.out]; exact hlt)
          obtain ⟨b, off, rfl, hbl, A1, c1, hcell, g1, g2, g3⟩ := (HG.out.on HB.out) k x hx
          obtain ⟨L, hL⟩ : ∃ L, L = x.length := ⟨_, rfl⟩
          have HL := Lib.hid hL
          have HX := Lib.hid hx
          have HI : Hid (InY wr (.slice A1 L c1) x) := ⟨A1, c1, by rw [hL], g1, g2, g3⟩
          have hLm : L ≤ 9223372036854775807 := by unfold maxLen at g2; omega
          rw [← hL] at hcell
          clear hx hL g1 g2 g3
          rcases Nat.lt_or_ge 600 L with hd | hd
          · have hd1 : (600 : Int) < (L : Int) := by omega
            go_wp2_with fail
            refine (awake_true wr (HT.out.on HB.out)).mono ?_
            rintro ez wz ⟨rfl, hbz⟩
            have HBZ := Lib.hid (bstep HB.out hbz)
            clear hbz
            go_wp2_with fail
            go_ret
            exact ⟨rfl, HBZ.out⟩
          · have hd1 : decide ((600 : Int) < (L : Int)) = false := decide_eq_false (by omega)
            have HLL := Lib.hid hd
            obtain ⟨F, hF⟩ : ∃ F, F = (frame x).length := ⟨_, rfl⟩
            have HF := Lib.hid hF
            have hFm : F ≤ 700 := by have := frame_len (l := x) (by rw [← HL.out]; omega); have := HL.out; omega
            have hF5 : 5 ≤ F := by rw [hF]; exact frame_ge x
            have hFF : (F != F) = false := by simp
            have P1 := Lib.hid (frame_is (l := x) (by rw [← HL.out]; omega) rfl _ wr HI.out (HT.out.on HB.out))
            have HC := Lib.hid hcell
            have HBL := Lib.hid hbl
            have hop := open_frame (l := x) (by rw [← HL.out]; omega) r
            rw [← hF] at hop
            have HOP := Lib.hid (fun (v : Value) (B : Nat) (W : World) (hv : OwnY B W v ([] ++ frame x ++ r)) (hw : Below w.heap.size w W) => open_is (l := [] ++ frame x ++ r) (c := x) (k := F) (e0 := 0) (by rw [List.nil_append, hop]) (by rw [List.nil_append, List.length_append, ← hF, ← HR.out]; have := HRL.out; omega) v W hv.inY (HT.out.on hw))
            have HFL : Hid ((frames (M.take k)).length ≤ 12400) := show _ ≤ _ by
              have h1 := frames_len (M.take k) HSM.out
              have h2 : (M.take k).length ≤ 20 := by rw [List.length_take]; have := HNL.out; omega
              have h3 := Nat.mul_le_mul_right 620 h2
              omega
            have HFM := Lib.hid hFm
            clear hd hF hop hFm
            go_wp2_with fail
            refine P1.out.mono ?_
            rintro e1 w1 ⟨v1, rfl, ho1, hb1'⟩
            obtain ⟨A2, c2, rfl, hc2', hm2', hby2⟩ := ho1.inY
            have HY2 := Lib.hid hby2
            have HB1 := Lib.hid hb1'
            have HW1 := Lib.hid (bstep HB.out hb1')
            rw [← HF.out] at hc2' ⊢
            clear ho1 hb1' hm2' hby2 hcell hbl
            go_wp2_with (at_builtin; refine append_own rfl _ _ rfl w1.heap.size (.slice none 0 0) [] rfl (OwnY.nil _ _) A2 c2 (frame x) F HF.out rfl HY2.out (by rw [← HF.out]; have := HFM.out; simp; omega) (Nat.le_refl _) ?_; intro v2 w2 hown2 hb2; refine Hid.out ?_)
            refine Lib.hid ?_
            have HO2 := Lib.hid hown2
            have HB2 := Lib.hid hb2
            clear hown2 hb2
            go_wp2_with (at_builtin; refine append_own rfl _ _ rfl w1.heap.size v2 ([] ++ frame x) rfl HO2.out A' c' r R HR.out rfl (HA.out.on (bstep HW1.out HB2.out)) (by rw [List.nil_append, ← HF.out, ← HR.out]; have := HFM.out; have := HRL.out; omega) HB2.out.size ?_; intro v3 w3 hown3 hb3; refine Hid.out ?_)
            refine Lib.hid ?_
            have HO3 := Lib.hid hown3
            have HB3 := Lib.hid (HB2.out.trans hb3)
            have HW3 := Lib.hid (bstep HW1.out HB3.out)
            clear hown3 hb3
            go_wp2_with fail
            refine (HOP.out _ _ _ HO3.out HW3.out).mono ?_
            rintro e4 w4 ⟨v4, rfl, hn4, hb4⟩
            have HR4 := Lib.hid (bstep HB1.out (bstep HB3.out hb4))
            have HW4 := Lib.hid (bstep HW3.out hb4)
            have hcell4 : w4.cell? ⟨b, off + k, none⟩ = some (.slice A1 L c1) := (HR4.out.cell (p := ⟨b, off + k, none⟩) HBL.out).trans HC.out
            have hbl4 : b < w4.heap.size := Nat.lt_of_lt_of_le HBL.out HR4.out.size
            have HN4 := Lib.hid hn4.inY
            have HS := Lib.hid (same_yes v4 _ w4 HN4.out (HI.out.on HR4.out))
            have HB34 := Lib.hid hb4
            clear hn4 hb4
            go_wp2_with fail
            refine HS.out.mono ?_
            rintro e5 w5 ⟨rfl, hb5⟩
            have HR5 := Lib.hid (bstep HR4.out hb5)
            have HW5 := Lib.hid (bstep HW4.out hb5)
            have HY5 := Lib.hid (HY2.out.on (bstep HB3.out (bstep HB34.out hb5)))
            have HO5 := Lib.hid (HO.out.on HR5.out)
            have HNX := Lib.hid (frames_next M HX.out)
            have HSX := Lib.hid (small_next HX.out (by rw [← HL.out]; exact HLL.out) HSM.out)
            go_wp2_with (at_builtin; refine append_own rfl _ _ rfl w.heap.size u5 (frames (M.take k)) rfl HO5.out A2 c2 (frame x) F HF.out rfl HY5.out (by rw [← HF.out]; have := HFM.out; have := HFL.out; omega) HW5.out.size ?_; intro v6 w6 hown6 hb6; refine Hid.out ?_)
            refine Lib.hid ?_
            have HO6 := Lib.hid hown6
            have HB6 := Lib.hid (HW5.out.trans hb6)
            clear hown6 hb6 hcell4 hbl4
            go_wp2_with fail
            go_roundw
            case rel => exact ⟨k + 1, by go_num, by rw [← HN.out]; omega, HSX.out, by rw [HNX.out]; exact HO6.out, HB6.out⟩
            case measure => simp [intOf]; omega
        · obtain rfl : k = N := by omega
          have htk : M.take k = M := List.take_of_length_le (by rw [← HN.out]; exact Nat.le_refl _)
          rw [htk] at HSM HO
          obtain ⟨T, hT⟩ : ∃ T, T = (frames M).length := ⟨_, rfl⟩
          have hTm : T ≤ 12400 := by
            rw [hT]
            have h1 := frames_len M HSM.out
            have h2 := Nat.mul_le_mul_right 620 HNL.out
            rw [← HN.out] at h1
            omega
          obtain ⟨A5, c5, hu5, hc5, hm5, hby5⟩ := HO.out.inY
          subst hu5
          have HI5 : Hid (InY wr (.slice A5 T c5) (frames M)) := ⟨A5, c5, by rw [hT], hc5, hm5, hby5⟩
          rw [← hT] at hc5 ⊢
          have hall := crc_All _ (frames M) wr HI5.out (by rw [← hT]; omega) (HT.out.on HB.out)
          rw [all_frames (L := M) (fun c hc => by have := HSM.out c hc; omega), ← hT] at hall
          have HAL := Lib.hid hall
          have hTT : (T != T) = false := by simp
          have hNN : (k != k) = false := by simp
          clear hge htk hT hc5 hm5 hby5 hall
          go_wp2_with fail
          refine HAL.out.mono ?_
          rintro e1 w1 ⟨v1, rfl, ho1, hb1'⟩
          obtain ⟨A6, c6, rfl, hn6, hm6, hg6⟩ := ho1.grd
          have HG6 := Lib.hid hg6
          have HW1 := Lib.hid (bstep HB.out hb1')
          simp only at *
          rw [← HN.out] at hn6 ⊢
          clear ho1 hb1' hg6 hm6
          go_wp2_with fail
          go_loopw [15] (fun i wx => ∃ j n : Nat, j ≤ M.length ∧ i = .int .i64 (j : Int) ∧ wx = w1.drewN n) (fun i _ => k - (intOf i).toNat)
          case atStart => exact ⟨0, 0, Nat.zero_le _, rfl, rfl⟩
          case round =>
            obtain ⟨j, n, hj, rfl, hw⟩ := hrel
            rw [← HN.out] at hj
            have HW := Lib.hid hw
            have HWB : Hid (Below w1.heap.size w1 wr) := by rw [hw]; exact below_drewN (Below.refl _ _) n
            have HWW := Lib.hid (bstep HW1.out HWB.out)
            clear hw
            rcases Nat.lt_or_ge j k with hlt | hge
            · obtain ⟨x, hx⟩ := get_lt (L := M) (k := j) (by rw [← HN.out]; exact hlt)
              obtain ⟨b1, off1, rfl, hl1, A3, c3, hc3, g1, g2, g3⟩ := (HG.out.on HWW.out) j x hx
              obtain ⟨b2, off2, rfl, hl2, A4, c4, hc4, f1, f2, f3⟩ := (HG6.out.on HWB.out) j x hx
              obtain ⟨L, hL⟩ : ∃ L, L = x.length := ⟨_, rfl⟩
              have HC : Hid (∀ m, Calls Tryd.prog 19 #[.slice A4 L c4, .slice A3 L c3] (wr.drewN m) fun e w' => e = .returned (.bool true) ∧ ∃ n', w' = wr.drewN n') :=
                fun m => by
                  refine (ref_EqN _ _ x x _ (InY.on (w := wr) ⟨A4, c4, by rw [hL], f1, f2, f3⟩ (below_drewN (Below.refl _ _) m)) (InY.on (w := wr) ⟨A3, c3, by rw [hL], g1, g2, g3⟩ (below_drewN (Below.refl _ _) m))).mono ?_
                  rintro e w' ⟨rfl, n', rfl⟩
                  exact ⟨by rw [decide_eq_true rfl], m + n', by rw [World.drewN_drewN]⟩
              rw [← hL] at hc3 hc4
              clear hx g1 g2 g3 f1 f2 f3 hL
              go_wp2_with fail
              go_quiet ((go_at_call 19; (with_reducible exact HC.out _)))
              go_wp2_with fail
              go_roundw
              case rel => exact ⟨j + 1, _, by rw [← HN.out]; omega, by go_num, by rw [HW.out, World.drewN_drewN]⟩
              case measure => simp [intOf]; omega
            · obtain rfl : j = k := by omega
              have HTW := Lib.hid (HT.out.on HWW.out)
              have HYW := Lib.hid (HY.out.on HWW.out)
              rw [← HR.out] at HYW
              have P := Lib.hid (crc_Open _ r wr HYW.out (by rw [← HR.out]; have := HRL.out; omega) HTW.out)
              have HE := fun h => Lib.hid (open_err (b := r) h)
              have HK := fun h => Lib.hid (open_ok (b := r) h)
              obtain ⟨t, ht⟩ : ∃ t, openR r = t := ⟨_, rfl⟩
              rw [ht] at P HE HK
              obtain ⟨o, u, e⟩ := t
              simp only at HE HK
              clear hge ht
              go_wp2_with fail
              refine P.out.mono ?_
              rintro e2 w2 ⟨v2, rfl, hn2, hb2⟩
              have HI2 := Lib.hid hn2.inY
              have HB2 := Lib.hid (bstep HWW.out hb2)
              have HYX := Lib.hid (HYW.out.on hb2)
              clear hn2 hb2
              by_cases he : e = 0
              · subst he
                obtain ⟨h1, h2, h3, h4⟩ := (HK rfl).out
                rw [← HR.out] at h1
                have HU := Lib.hid h1
                have H4 := Lib.hid h4
                have hu1 : (u : Int) ≤ (R : Int) := by omega
                have hu0 : (0 : Int) ≤ (u : Int) := by omega
                have hmax : max (u : Int) 0 = (u : Int) := Int.max_eq_left hu0
                have PF := Lib.hid (frame_is (l := o) h2 rfl v2 w2 HI2.out (HT.out.on HB2.out))
                obtain ⟨A8, c8, e0, hcr, hmr, hbyr⟩ := HYX.out
                obtain ⟨e1, -, e2⟩ := Value.slice.inj e0
                rw [← e2] at hcr hmr
                rw [← e1] at hbyr
                clear e0 e1 e2
                have hsl := fun W => Wire.slice_to A' R c' u (by rw [← HR.out] at hcr; omega) W
                have HIU : Hid (InY w2 (.slice A' u c') (frame o)) := by
                  rw [← h4]
                  have hl : (r.take u).length = u := by rw [List.length_take, ← HR.out]; omega
                  exact ⟨A', c', by rw [hl], by rw [hl]; rw [← HR.out] at hcr; omega, hmr, hbyr.take u⟩
                clear h1 h2 h3 h4 HK HE hcr hmr hbyr
                go_wp2_with fail
                refine PF.out.mono ?_
                rintro e3 w3 ⟨v3, rfl, ho3, hb3⟩
                have HI3 := Lib.hid ho3.inY
                have HB3 := Lib.hid (bstep HB2.out hb3)
                have HIU3 := Lib.hid (HIU.out.on hb3)
                clear ho3 hb3
                go_wp2_with fail
                refine (same_yes v3 _ w3 HI3.out HIU3.out).mono ?_
                rintro e4 w4 ⟨rfl, hb4⟩
                have HB4 := Lib.hid (bstep HB3.out hb4)
                clear hb4
                go_wp2_with fail
                refine (awake_true w4 (HT.out.on HB4.out)).mono ?_
                rintro ez wz ⟨rfl, hbz⟩
                have HBZ := Lib.hid (bstep HB4.out hbz)
                clear hbz
                go_wp2_with fail
                go_ret
                exact ⟨rfl, HBZ.out⟩
              · have he0 : (e == 0) = false := by simpa using he
                obtain ⟨h1, h2⟩ := (HE he).out
                subst h1 h2
                obtain ⟨A7, c7, hv, _⟩ := HI2.out
                subst hv
                clear he HE HK
                go_wp2_with fail
                refine (awake_true w2 (HT.out.on HB2.out)).mono ?_
                rintro ez wz ⟨rfl, hbz⟩
                have HBZ := Lib.hid (bstep HB2.out hbz)
                clear hbz
                go_wp2_with fail
                go_ret
                exact ⟨rfl, HBZ.out⟩
#print axioms walk_CrcRoundTrip
end Go.Proofs.YtahgkohnamnljaaDoor.Crc
