/- Contract of Open of the reference. -/
import Derived.Test.YtahgkohnamnljaaDoorCrcG
namespace Go.Proofs.YtahgkohnamnljaaDoor.Crc
open Go.ChangeShapes Go.WideShapes Go.RowKit
open Wire (Byt InY OwnY below_alloc lt_get bstep get_lt ret_int ret_bool wrap_id byte_of cells Puts append_own conv_at encI encI_ten len_isI ls_len ls bs bs_list slice_mid takeI take_ok ref_TakeInt TRes)
set_option linter.unusedVariables false
set_option maxRecDepth 100000

theorem puts_four {n : Nat} {w w' : World} {e : Ending} (h : Puts w (four n) e w') : ∃ A c, e = .returned (.slice A 4 c) ∧ InY w' (.slice A 4 c) (four n) ∧ Below w.heap.size w w' := by
  obtain ⟨v, rfl, ho, hb⟩ := h
  obtain ⟨A, c, rfl, h2⟩ := own_4 ho
  exact ⟨A, c, rfl, h2, hb⟩
set_option maxHeartbeats 3200000 in
theorem ref_Open (v : Value) (l : List UInt8) (w : World) (hv : InY w v l) (hl : l.length ≤ 1000000) :
    Calls Tryd.prog 21 #[v] w (ORes (openR l) w) := by
  have HC := Lib.hid (ref_TakeInt v l w hv hl)
  have HR := Lib.hid (openR_def l)
  have HOK := fun h => Lib.hid (take_ok (b := l) h)
  obtain ⟨A, c, rfl, hc, hcm, hb⟩ := hv
  have HB := Lib.hid hb
  have HM := Lib.hid hcm
  obtain ⟨N, hN⟩ : ∃ N, N = l.length := ⟨_, rfl⟩
  have HN := Lib.hid hN
  rw [← hN] at hl hc HC HR ⊢
  obtain ⟨t, ht2⟩ : ∃ t, takeI l = t := ⟨_, rfl⟩
  rw [ht2] at HC HR HOK
  obtain ⟨x, k, e⟩ := t
  simp only at HR HOK
  clear hb hcm hN ht2
  go_enter Tryd.func21, Tryd.ntmps21
  go_wp2_with fail
  refine HC.out.mono ?_
  rintro e1 w1 ⟨rfl, rfl⟩
  by_cases he : e = 0
  · subst he
    obtain ⟨-, -, hk, -, -⟩ := (HOK rfl).out
    rw [← HN.out] at hk
    clear HOK
    rw [if_pos rfl] at HR
    rcases Int.lt_or_le x 0 with h1 | h1
    · have HF : Hid (openR l = ⟨[], 0, 3⟩) := show _ = _ by rw [HR.out, if_pos h1]
      go_wp2_with fail
      go_ret3
      exact ⟨_, by rw [HF.out]; rfl, by rw [HF.out]; exact NewY.nil _ _, Below.refl _ _⟩
    · obtain ⟨d, rfl⟩ := Int.eq_ofNat_of_zero_le h1
      rw [if_neg (by omega)] at HR
      clear h1
      rcases Nat.lt_or_ge 65536 d with h2 | h2
      · have HF : Hid (openR l = ⟨[], 0, 8⟩) := show _ = _ by rw [HR.out, if_pos (by omega)]
        go_wp2_with fail
        go_ret3
        exact ⟨_, by rw [HF.out]; rfl, by rw [HF.out]; exact NewY.nil _ _, Below.refl _ _⟩
      · have h2' : decide (65536 < d) = false := decide_eq_false (by omega)
        rw [if_neg (by omega)] at HR
        obtain ⟨E, hE⟩ : ∃ E : Int, E = ((k + d : Nat) : Int) := ⟨_, rfl⟩
        obtain ⟨F, hF⟩ : ∃ F : Int, F = ((k + d + 4 : Nat) : Int) := ⟨_, rfl⟩
        have hE1 : (k : Int) + (d : Int) = E := by omega
        have hE2 : IntKind.i64.wrap E = E := wrap_id (by omega) (by omega)
        have hF1 : E + 4 = F := by omega
        have hF2 : IntKind.i64.wrap F = F := wrap_id (by omega) (by omega)
        have HE := Lib.hid hE
        have HF1 := Lib.hid hF
        rcases Nat.lt_or_ge N (k + d + 4) with h3 | h3
        · have h3' : (N : Int) < F := by omega
          have HF : Hid (openR l = ⟨[], 0, 4⟩) := show _ = _ by rw [HR.out, if_pos (by omega)]
          clear hE hF h3
          go_wp2_with fail
          go_ret3
          exact ⟨_, by rw [HF.out]; rfl, by rw [HF.out]; exact NewY.nil _ _, Below.refl _ _⟩
        · have h3' : decide ((N : Int) < F) = false := decide_eq_false (by omega)
          rw [if_neg (by omega), Int.toNat_natCast] at HR
          obtain ⟨A3, c3, m3, hm3, hs3, hi3⟩ := slice_in (c := c) HB.out (by rw [← HN.out]; exact hc) HM.out (k + d) 4 (by rw [← HN.out]; omega)
          obtain ⟨A4, c4, m4, hm4, hs4, hi4⟩ := slice_in (c := c) HB.out (by rw [← HN.out]; exact hc) HM.out k d (by rw [← HN.out]; omega)
          rw [← HN.out] at hs3 hs4
          rw [← hE] at hs4
          rw [← hF, ← hE] at hs3
          have HM4 := Lib.hid hm4
          have HI3 := Lib.hid hi3
          have HI4 := Lib.hid hi4
          have HN3 := Lib.hid h3
          obtain ⟨T, hT⟩ : ∃ T, T = (l.drop k).take d := ⟨_, rfl⟩
          rw [← hT] at HR HI4 HM4
          have hTl : T.length ≤ 65536 := by rw [HM4.out]; have := HM4.out; rw [hT, List.length_take] at this; omega
          have S1 := Lib.hid (fun W (h0 : Below w.heap.size w W) => ref_Sum _ T W (HI4.out.on h0) (by omega))
          have F1 := Lib.hid (fun W => ref_four (chk T) W (chk_lt T))
          obtain ⟨p, hp⟩ : ∃ p, p = decide ((l.drop (k + d)).take 4 = four (chk T)) := ⟨_, rfl⟩
          have E1 := Lib.hid (fun (A' : Option Addr) (c' : Nat) (W0 W : World) (h1 : InY W (.slice A' 4 c') (four (chk T))) (h0 : Below w.heap.size w W0) (hW : Below W0.heap.size W0 W) => ref_Eq _ (.slice A' 4 c') _ (four (chk T)) W (HI3.out.on (bstep h0 hW)) h1)
          rw [← hp] at E1
          have HP := Lib.hid hp
          have hm4l : m4 ≤ 65536 := by rw [← HM4.out]; exact hTl
          clear hm3 hm4 hi3 hi4 hE hF h3 hT hp hTl
          go_upto_region 10 with fail
          (go_region_held_law (fun W' => True) (trivial) (first | (go_at_call 14; (with_reducible refine (S1.out _ (Below.refl _ _).drew).mono ?_); rintro es ws ⟨rfl, rfl⟩) | (go_at_call 29; (with_reducible refine (F1.out _).mono ?_); intro ep wp hq; obtain ⟨A5, c5, rfl, hvp, hbp⟩ := puts_four hq) | (go_at_call 19; (with_reducible refine (E1.out _ _ _ _ hvp (Below.refl _ _).drew hbp).mono ?_); rintro eq wq ⟨rfl, hbq⟩)))
          rename_i hheld
          clear hheld
          have HW := Lib.hid (bstep (bstep (Below.refl w.heap.size w).drew hbp) hbq)
          have HIW := Lib.hid (HI4.out.on HW.out)
          obtain ⟨A6, c6, e6, _, _, hby6⟩ := HIW.out
          have HB6 := Lib.hid hby6
          have hm4 : m4 = T.length := (Value.slice.inj e6).2.1
          have hA4 : A4 = A6 := (Value.slice.inj e6).1
          subst hA4
          have HM4' := Lib.hid hm4
          clear hvp hbp hbq e6 hby6 hm4
          cases p with
          | false =>
            have HF : Hid (openR l = ⟨[], 0, 15⟩) := show _ = _ by rw [HR.out, if_neg (of_decide_eq_false HP.out.symm)]
            go_wp2_with fail
            go_ret3
            exact ⟨_, by rw [HF.out]; rfl, by rw [HF.out]; exact NewY.nil _ _, HW.out⟩
          | true =>
            have HF : Hid (openR l = ⟨T, k + d + 4, 0⟩) := show _ = _ by rw [HR.out, if_pos (of_decide_eq_true HP.out.symm)]
            go_wp2_with (at_builtin; refine append_own rfl _ _ rfl w.heap.size (.slice none 0 0) [] rfl (OwnY.nil _ _) A4 c4 T m4 HM4'.out rfl HB6.out (by rw [← HM4'.out]; simp; omega) HW.out.size ?_; intro v7 w7 hown7 hb7; refine Hid.out ?_)
            refine Lib.hid ?_
            have HO7 := Lib.hid (own_new hown7)
            have HB7 := Lib.hid (HW.out.trans hb7)
            clear hown7 hb7
            go_wp2_with fail
            go_ret3
            exact ⟨v7, by rw [HF.out, HF1.out]; rfl, by rw [HF.out]; exact HO7.out, HB7.out⟩
  · have he0 : (e == 0) = false := by simpa using he
    have HF : Hid (openR l = ⟨[], 0, e⟩) := show _ = _ by rw [HR.out, if_neg he]
    clear he HOK
    go_wp2_with fail
    go_ret3
    exact ⟨_, by rw [HF.out]; rfl, by rw [HF.out]; exact NewY.nil _ _, Below.refl _ _⟩
#print axioms ref_Open
end Go.Proofs.YtahgkohnamnljaaDoor.Crc
