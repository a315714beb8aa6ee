/- The walk of CrcDamaged. -/
import Derived.Test.YtahgkohnamnljaaDoorCrcL
import Derived.Test.YtahgkohnamnljaaDoorCrcK
namespace Go.Proofs.YtahgkohnamnljaaDoor.Crc
open Go.ChangeShapes Go.WideShapes Go.RowKit
open Wire (Byt InY OwnY below_alloc lt_get bstep get_lt ret_int ret_bool wrap_id byte_of in_lit in_y append_own encI encI_pos encI_ten len_isI takeI take_enc wire_TakeInt TRes)
set_option linter.unusedVariables false
set_option maxRecDepth 100000

set_option maxHeartbeats 3200000 in
theorem walk_CrcDamaged (w : World) (A : Option Addr) (n c : Nat) (zs : List Int) (h : InInts .u8 w A n c zs) (m : Int) (hm : (Lit.int .u16 m).wf = true) (x : Int) (hx : (Lit.int .u8 x).wf = true) (ht : Tab w) :
    Calls Tryd.prog 10 #[.slice A n c, .int .u16 m, .int .u8 x] w fun e w' => e = .returned (.bool true) ∧ Below w.heap.size w w' := by
  obtain ⟨l, rfl, hy⟩ := in_y h
  obtain ⟨m, rfl, hm2⟩ := wf_u16 hm
  obtain ⟨x, rfl⟩ := wf_u8 hx
  have hs := hy.small
  have HY := Lib.hid hy
  have HT := Lib.hid ht
  clear h hy ht hm hx
  obtain ⟨xz, hxz⟩ : ∃ z : Int, z = (x.toNat : Int) := ⟨_, rfl⟩
  have HXZ := Lib.hid hxz
  rw [← hxz]
  clear hxz
  rcases Nat.lt_or_ge 4000 l.length with hb | hb
  · have hb1 : (4000 : Int) < (l.length : Int) := by omega
    go_enter Tryd.func10, Tryd.ntmps10
    go_wp2_with fail
    refine (awake_true w HT.out).mono ?_
    rintro ez wz ⟨rfl, hbz⟩
    have HBZ := Lib.hid hbz
    clear hbz
    go_wp2_with fail
    go_ret
    exact ⟨rfl, HBZ.out⟩
  · have hb1 : decide ((4000 : Int) < (l.length : Int)) = false := decide_eq_false (by omega)
    by_cases hx0 : x = 0
    · have hc1 : (xz == 0) = true := by rw [HXZ.out, hx0]; rfl
      have HX0 := Lib.hid hx0
      clear hx0
      go_enter Tryd.func10, Tryd.ntmps10
      go_wp2_with fail
      refine (awake_true w HT.out).mono ?_
      rintro ez wz ⟨rfl, hbz⟩
      have HBZ := Lib.hid hbz
      clear hbz
      go_wp2_with fail
      go_ret
      exact ⟨rfl, HBZ.out⟩
    · have hc1 : (xz == 0) = false := by
        rw [HXZ.out]; simp
        intro e
        exact hx0 (UInt8.toNat_inj.mp (by simpa using e))
      have hc2 : ¬ xz = 0 := by simpa using hc1
      have H1 := Lib.hid (frame_is (l := l) (by omega) rfl _ w HY.out HT.out)
      have HFL := Lib.hid (frame_len (l := l) (by omega))
      have HL := Lib.hid hb
      obtain ⟨N, hN⟩ : ∃ N, N = l.length := ⟨_, rfl⟩
      have HN := Lib.hid hN
      obtain ⟨F, hF⟩ : ∃ F, F = (frame l).length := ⟨_, rfl⟩
      have HF := Lib.hid hF
      obtain ⟨K, hK⟩ : ∃ K, K = (encI (N : Int)).length := ⟨_, rfl⟩
      have hKF : K + N + 4 = F := by
        rw [hF, hK, hN]; unfold frame; simp only [List.length_append, four_len]; omega
      have hTK : takeI (frame l) = ⟨(N : Int), K, 0⟩ := by
        unfold frame
        rw [take_enc (len_isI (by omega)), hK, hN]
      have hF5 : 5 ≤ F := by rw [hF]; exact frame_ge l
      have hFm : F ≤ 5000 := by have := HFL.out; omega
      have HTI := Lib.hid (fun v W (hv : InY W v (frame l)) => wire_TakeInt v (frame l) W hv (by rw [← hF]; omega))
      rw [hTK] at HTI
      unfold TRes at HTI
      obtain ⟨J, hJ⟩ : ∃ J, J = m % F := ⟨_, rfl⟩
      have hJ1 : (m : Int) % (F : Int) = (J : Int) := by rw [hJ]; simp
      have hJF : J < F := by rw [hJ]; exact Nat.mod_lt _ (by omega)
      obtain ⟨z, hz⟩ := get_lt (L := frame l) (k := J) (by rw [← hF]; exact hJF)
      obtain ⟨zz, hzz⟩ : ∃ i : Int, i = (z.toNat : Int) := ⟨_, rfl⟩
      obtain ⟨yz, hyz⟩ : ∃ i : Int, i = ((z ^^^ x).toNat : Int) := ⟨_, rfl⟩
      have hxor : bits .xor .u8 zz xz = yz := by rw [hzz, HXZ.out, hyz]; exact xor_bytes z x
      have hF0 : ¬ F = 0 := by omega
      obtain ⟨E, hE⟩ : ∃ E, E = K + N := ⟨_, rfl⟩
      have hE1 : (K : Int) + (N : Int) = (E : Int) := by omega
      have hE2 : IntKind.i64.wrap (E : Int) = (E : Int) := wrap_id (by omega) (by omega)
      have hE3 : (E : Int) + 4 = (F : Int) := by omega
      have hE4 : IntKind.i64.wrap (F : Int) = (F : Int) := wrap_id (by omega) (by omega)
      have hEF : (F != F) = false := by simp
      have HZ := Lib.hid hz
      have HZZ := Lib.hid hzz
      have HYZ := Lib.hid hyz
      have HX0 := Lib.hid (xor_ne (b := z) hx0)
      have HKN : Hid (K = (encI (l.length : Int)).length) := show _ = _ by rw [hK, hN]
      have HL2 : Hid (l.length ≤ 65536) := show _ ≤ _ by omega
      obtain ⟨t, ht⟩ : ∃ t, openR ((frame l).set J (z ^^^ x)) = t := ⟨_, rfl⟩
      have HTT := Lib.hid ht
      have HOP := Lib.hid (fun W (hv : OwnY W.heap.size W (.slice none 0 0) []) => hv)
      obtain ⟨o, k', e'⟩ := t
      clear HOP
      have HOP := Lib.hid (fun (v : Value) (B : Nat) (W : World) (hv : OwnY B W v ((frame l).set J (z ^^^ x))) (hw : Below w.heap.size w W) => open_is ht (by rw [List.length_set, ← hF]; omega) v W hv.inY (HT.out.on hw))
      rw [← hN] at hb1 hs ⊢
      clear hb hx0 hN hF hK hKF hTK hJ hz hzz hyz hE ht
      go_enter Tryd.func10, Tryd.ntmps10
      go_wp2_with fail
      rw [HN.out]
      refine H1.out.mono ?_
      rw [← HN.out]
      rintro e1 w1 ⟨v1, rfl, hn1, hb1'⟩
      obtain ⟨A1, c1, rfl, hc1', hm1, hby⟩ := hn1.inY
      have HBY := Lib.hid hby
      have HB1 := Lib.hid hb1'
      have HI1 : Hid (InY w1 (.slice A1 F c1) (frame l)) := ⟨A1, c1, by rw [HF.out], hc1', hm1, hby⟩
      rw [← HF.out] at hc1' ⊢
      clear hn1 hb1' hby hm1
      go_wp2_with fail
      refine (HTI.out _ w1 HI1.out).mono ?_
      rintro e2 w1' ⟨rfl, rfl⟩
      go_wp2_with (at_builtin; refine append_own rfl _ _ rfl w1.heap.size (.slice none 0 0) [] rfl (OwnY.nil _ _) A1 c1 (frame l) F HF.out rfl HBY.out (by rw [← HF.out]; simp; omega) (Nat.le_refl _) ?_; intro v2 w2 hown2 hb2; refine Hid.out ?_)
      refine Lib.hid ?_
      rw [List.nil_append] at hown2
      obtain ⟨g, cap, rfl, hg1, hg2, hcap⟩ := own_block hown2 (by rw [← HF.out]; omega)
      rw [← HF.out] at hown2 hcap ⊢
      have HO2 := Lib.hid hown2
      have HB2 := Lib.hid (bstep HB1.out hb2)
      have HG : Hid (w.heap.size ≤ g) := Nat.le_trans HB1.out.size hg1
      clear hown2 hb2 hg1 hg2
      have hd2 : w2.frozen? ⟨g, J, none⟩ = false := own_warm HO2.out HF.out J
      have hd1 : w2.cell? ⟨g, J, none⟩ = some (.int .u8 zz) := by rw [HZZ.out]; exact own_cell HO2.out HZ.out
      have hl1 : g < w2.heap.size := HO2.out.lt g rfl
      have HO3 : Hid (OwnY w1.heap.size (w2.setCell ⟨g, J, none⟩ (.int .u8 yz)) (.slice (some ⟨g, 0, none⟩) F cap) ((frame l).set J (z ^^^ x))) := by
        rw [HYZ.out]; exact own_set HO2.out HF.out J (z ^^^ x)
      have HB3 : Hid (Below w.heap.size w (w2.setCell ⟨g, J, none⟩ (.int .u8 yz))) := HB2.out.setCell HG.out _
      go_wp2_with fail
      refine (HOP.out _ _ _ HO3.out HB3.out).mono ?_
      rintro e3 w3 ⟨v3, rfl, hn3, hb3⟩
      have HB4 := Lib.hid (bstep HB3.out hb3)
      obtain ⟨A3, c3, rfl, _⟩ := hn3
      clear hb3
      rcases Nat.lt_or_ge J K with hJK | hJK
      · have hj1 : decide (K ≤ J) = false := decide_eq_false (by omega)
        have hor := open_set_length HL2.out (i := J) (b := z) (y := z ^^^ x) (by rw [← HKN.out]; exact hJK) HZ.out HX0.out
        rw [HTT.out] at hor
        simp only at hor
        by_cases he : e' = 0
        · subst he
          have hne : o.length ≠ N := by
            rcases hor with h | h
            · exact absurd rfl h
            · rw [HN.out]; exact h
          obtain ⟨M, hM⟩ : ∃ M, M = o.length := ⟨_, rfl⟩
          rw [← hM] at hne ⊢
          have hne2 : ((M : Int) != (N : Int)) = true := by simp; omega
          have hne3 : ((M : Int) == (N : Int)) = false := by simp; omega
          clear hor hM hne
          go_wp2_with fail
          refine (awake_true w3 (HT.out.on HB4.out)).mono ?_
          rintro ez wz ⟨rfl, hbz⟩
          have HBZ := Lib.hid (bstep HB4.out hbz)
          clear hbz
          go_wp2_with fail
          go_ret
          exact ⟨rfl, HBZ.out⟩
        · have he1 : (e' == 0) = false := by simpa using he
          have he2 : (e' != 0) = true := by simpa using he
          clear hor
          go_wp2_with fail
          refine (awake_true w3 (HT.out.on HB4.out)).mono ?_
          rintro ez wz ⟨rfl, hbz⟩
          have HBZ := Lib.hid (bstep HB4.out hbz)
          clear hbz
          go_wp2_with fail
          go_ret
          exact ⟨rfl, HBZ.out⟩
      · have heq := open_set_behind HL2.out (i := J) (b := z) (y := z ^^^ x) (by rw [← HKN.out]; exact hJK) HZ.out HX0.out
        rw [HTT.out] at heq
        cases heq
        go_wp2_with fail
        refine (awake_true w3 (HT.out.on HB4.out)).mono ?_
        rintro ez wz ⟨rfl, hbz⟩
        have HBZ := Lib.hid (bstep HB4.out hbz)
        clear hbz
        go_wp2_with fail
        go_ret
        exact ⟨rfl, HBZ.out⟩
#print axioms walk_CrcDamaged
end Go.Proofs.YtahgkohnamnljaaDoor.Crc
