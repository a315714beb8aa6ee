/- Walk of WireRoundTrip. -/
import Derived.Test.YthcbkjdjkmnbiaaWireK
namespace Go.Proofs.Ythcbkjdjkmnbiaa.Wire
open Go.ChangeShapes Go.WideShapes Go.RowKit
set_option linter.unusedVariables false
set_option maxRecDepth 100000

theorem InY.named {w : World} {v : Value} {l : List UInt8} (h : InY w v l) {N : Nat} (hN : N = l.length) : ∃ A c, v = .slice A N c ∧ N ≤ c ∧ Byt w A l := by
  subst hN
  obtain ⟨A, c, e, h1, _, h2⟩ := h
  exact ⟨A, c, e, h1, h2⟩
theorem text_is {l : List UInt8} {most : Int} {s : ByteArray} {k : Nat} {e0 : Int} (h : takeT l most = ⟨ls s, k, e0⟩) (v : Value) (w : World) (hv : InY w v l) (hl : l.length ≤ 1000000) :
    Calls Try.prog 20 #[v, .int .i64 most] w fun e w' => e = .returned (.tuple #[.string s, .int .i64 (k : Int), .int .i64 e0]) ∧ w = w' := by
  have := wire_TakeText v l most w hv hl
  rw [h] at this; unfold SRes at this; simp only [bs_ls] at this; exact this
theorem list_is {l : List UInt8} {most : Int} {zs : List Int} {k : Nat} {e0 : Int} (h : takeL l most = ⟨zs, k, e0⟩) (v : Value) (w : World) (hv : InY w v l) (hl : l.length ≤ 1000000) :
    Calls Try.prog 22 #[v, .int .i64 most] w fun e w' => ∃ v', e = .returned (.tuple #[v', .int .i64 (k : Int), .int .i64 e0]) ∧ InI w' v' zs ∧ Below w.heap.size w w' := by
  have := wire_TakeList v l most w hv hl
  rw [h] at this
  refine this.mono ?_
  rintro e w' ⟨v', rfl, ho, hb⟩
  exact ⟨v', rfl, ho.inI, hb⟩
set_option maxHeartbeats 3200000 in
theorem walk_WireRoundTrip (w : World) (m : Int) (hm : (Lit.int .i64 m).wf = true) (s : ByteArray) (hs : s.size ≤ maxLen)
    (A' : Option Addr) (n' c' : Nat) (xs : List Int) (h' : InInts .i64 w A' n' c' xs) (A : Option Addr) (n c : Nat) (zs : List Int) (h : InInts .u8 w A n c zs) :
    Calls Try.prog 7 #[.int .i64 m, .string s, .slice A' n' c', .slice A n c] w fun e w' => e = .returned (.bool true) ∧ Below w.heap.size w w' := by
  obtain ⟨l, rfl, hy⟩ := in_y h
  obtain ⟨rfl, hi, ha⟩ := in_i h'
  have hls := hy.small
  have hss := max_small hs
  have hxs : xs.length ≤ 9223372036854775807 := by
    obtain ⟨_, _, _, h1, h2, _⟩ := hi
    unfold maxLen at h2; omega
  have HII := Lib.hid hi
  obtain ⟨_, _, e0, _, _, hits⟩ := hi
  cases e0
  obtain ⟨_, _, e0, _, _, hbyt⟩ := hy
  cases e0
  have HY := Lib.hid hbyt
  have HI := Lib.hid hits
  have HA := Lib.hid ha
  have HM := Lib.hid (wf_isI hm)
  clear h h' hbyt hits ha hm hs
  rcases Nat.lt_or_ge 300 s.size with hb | hb
  · have hb1 : (300 : Int) < (s.size : Int) := by omega
    go_enter Try.func7, Try.ntmps7
    go_wp2_with fail
    refine (awake_true w).mono ?_
    rintro e0 wz ⟨rfl, hbz⟩
    have HBZ := Lib.hid hbz
    clear hbz
    go_wp2_with fail
    go_ret
    exact ⟨rfl, HBZ.out⟩
  · have hb1 : decide ((300 : Int) < (s.size : Int)) = false := decide_eq_false (by omega)
    rcases Nat.lt_or_ge 300 xs.length with hc | hc
    · have hc1 : (300 : Int) < (xs.length : Int) := by omega
      go_enter Try.func7, Try.ntmps7
      go_wp2_with fail
      refine (awake_true w).mono ?_
      rintro e0 wz ⟨rfl, hbz⟩
      have HBZ := Lib.hid hbz
      clear hbz
      go_wp2_with fail
      go_ret
      exact ⟨rfl, HBZ.out⟩
    · have hc1 : decide ((300 : Int) < (xs.length : Int)) = false := decide_eq_false (by omega)
      rcases Nat.lt_or_ge 300 l.length with hd | hd
      · have hd1 : (300 : Int) < (l.length : Int) := by omega
        go_enter Try.func7, Try.ntmps7
        go_wp2_with fail
        refine (awake_true w).mono ?_
        rintro e0 wz ⟨rfl, hbz⟩
        have HBZ := Lib.hid hbz
        clear hbz
        go_wp2_with fail
        go_ret
        exact ⟨rfl, HBZ.out⟩
      · have hd1 : decide ((300 : Int) < (l.length : Int)) = false := decide_eq_false (by omega)
        have L2 := Lib.hid (show s.size ≤ 100000 by omega)
        have L3 := Lib.hid (show xs.length ≤ 4000 by omega)
        have K1 := Lib.hid (take_enc HM.out l)
        have K2 := Lib.hid (takeT_enc (s := ls s) (by rw [ls_len]; omega) l)
        have K3 := Lib.hid (takeL_enc (l := xs) (by omega) HA.out l)
        rw [ls_len] at K2
        have M1 : (encI m).length ≤ 10 := encI_ten HM.out
        have M2 : (encT (ls s)).length ≤ 310 := by have := encT_len (s := ls s) (by rw [ls_len]; omega); rw [ls_len] at this; omega
        have M3 : (encL xs).length ≤ 3010 := by have := encL_len (l := xs) (by omega) HA.out; omega
        have P1 := Lib.hid (fun W => wire_PutInt (.slice none 0 0) [] m W HM.out (InY.nil W) (by simp))
        have P2 := Lib.hid (fun W => wire_PutText (.slice none 0 0) [] s W (InY.nil W) (by simp) L2.out)
        have P3 := Lib.hid (fun W hW => wire_PutList (.slice none 0 0) [] A' c' xs W (InY.nil W) (by simp) (HI.out.on hW) HA.out L3.out)
        simp only [List.nil_append] at P1 P2 P3
        obtain ⟨E1, hE1⟩ : ∃ E, E = encI m := ⟨_, rfl⟩
        rw [← hE1] at K1 M1 P1
        obtain ⟨N1, hN1⟩ : ∃ N, N = E1.length := ⟨_, rfl⟩
        rw [← hN1] at K1 M1
        have HN1 := Lib.hid hN1
        have HM1 := Lib.hid M1
        obtain ⟨E2, hE2⟩ : ∃ E, E = encT (ls s) := ⟨_, rfl⟩
        rw [← hE2] at K2 M2 P2
        obtain ⟨N2, hN2⟩ : ∃ N, N = E2.length := ⟨_, rfl⟩
        rw [← hN2] at K2 M2
        have HN2 := Lib.hid hN2
        have HM2 := Lib.hid M2
        obtain ⟨E3, hE3⟩ : ∃ E, E = encL xs := ⟨_, rfl⟩
        rw [← hE3] at K3 M3 P3
        obtain ⟨N3, hN3⟩ : ∃ N, N = E3.length := ⟨_, rfl⟩
        rw [← hN3] at K3 M3
        have HN3 := Lib.hid hN3
        have HM3 := Lib.hid M3
        have hN1b : decide ((10 : Int) < (N1 : Int)) = false := decide_eq_false (by omega)
        have hN2b : decide ((310 : Int) < (N2 : Int)) = false := decide_eq_false (by omega)
        have hN3b : decide ((3010 : Int) < (N3 : Int)) = false := decide_eq_false (by omega)
        have L5 := Lib.hid (show l.length ≤ 300 from hd)
        clear hE1 hE2 hE3 hN1 hN2 hN3 M1 M2 M3 hb hc hd
        go_enter Try.func7, Try.ntmps7
        go_wp2_with fail
        refine (P1.out w).mono ?_
        intro e1 w1 hq
        obtain ⟨v1, rfl, hv, hbb⟩ := hq.open_
        obtain ⟨A1, c1, rfl, hcc1, hv⟩ := hv.named HN1.out
        have HV1 := Lib.hid hv
        have HB1 := Lib.hid hbb
        clear hv hbb hq
        go_wp2_with fail
        refine (P2.out w1).mono ?_
        intro e2 w2 hq
        obtain ⟨v2, rfl, hv, hbb⟩ := hq.open_
        obtain ⟨A2, c2, rfl, hcc2, hv⟩ := hv.named HN2.out
        have HV2 := Lib.hid hv
        have HB2 := Lib.hid (bstep HB1.out hbb)
        have HW := Lib.hid (HV1.out.on hbb)
        clear HV1
        have HV1 := HW
        clear HW
        clear hv hbb hq
        go_wp2_with fail
        refine (P3.out w2 HB2.out).mono ?_
        intro e3 w3 hq
        obtain ⟨v3, rfl, hv, hbb⟩ := hq.open_
        obtain ⟨A3, c3, rfl, hcc3, hv⟩ := hv.named HN3.out
        have HV3 := Lib.hid hv
        have HB3 := Lib.hid (bstep HB2.out hbb)
        have HW := Lib.hid (HV1.out.on hbb)
        clear HV1
        have HV1 := HW
        clear HW
        have HW := Lib.hid (HV2.out.on hbb)
        clear HV2
        have HV2 := HW
        clear HW
        clear hv hbb hq
        go_wp2_with (at_builtin; refine append_own rfl _ _ rfl w3.heap.size (.slice (some ⟨w3.heap.size, 0, none⟩) 0 0) [] rfl (OwnY.empty w3) A1 c1 E1 N1 HN1.out rfl (HV1.out.on (below_alloc _ _)) (by have := HM1.out; have := HN1.out; simp; omega) (below_alloc _ _).size ?_; intro va wa howna hba; refine Hid.out ?_)
        refine Lib.hid ?_
        have HOA := Lib.hid howna
        have HBA := Lib.hid ((below_alloc w3 (.cells #[] 5)).trans hba)
        clear howna hba
        go_wp2_with (at_builtin; refine append_own rfl _ _ rfl w3.heap.size va ([] ++ E1) rfl HOA.out A c l l.length rfl rfl (HY.out.on (bstep HB3.out HBA.out)) (by have := HM1.out; have := HN1.out; have := L5.out; simp; omega) HBA.out.size ?_; intro vb wb1 hownb hbb; refine Hid.out ?_)
        refine Lib.hid ?_
        have HOB := Lib.hid hownb.inY
        have HBB := Lib.hid (HBA.out.trans hbb)
        clear hownb hbb HOA HBA
        go_wp2_with fail
        refine (take_is K1.out vb wb1 HOB.out (by have := HM1.out; have := HN1.out; have := L5.out; simp; omega)).mono ?_
        rintro e0 w0 ⟨rfl, rfl⟩
        have HB4 := Lib.hid (bstep HB3.out HBB.out)
        have HW := Lib.hid (HV2.out.on HBB.out)
        clear HV2
        have HV2 := HW
        clear HW
        have HW := Lib.hid (HV3.out.on HBB.out)
        clear HV3
        have HV3 := HW
        clear HW
        clear HOB HBB HB3 HV1
        go_wp2_with (at_builtin; refine append_own rfl _ _ rfl wb1.heap.size (.slice (some ⟨wb1.heap.size, 0, none⟩) 0 0) [] rfl (OwnY.empty wb1) A2 c2 E2 N2 HN2.out rfl (HV2.out.on (below_alloc _ _)) (by have := HM2.out; have := HN2.out; simp; omega) (below_alloc _ _).size ?_; intro va wa howna hba; refine Hid.out ?_)
        refine Lib.hid ?_
        have HOA := Lib.hid howna
        have HBA := Lib.hid ((below_alloc wb1 (.cells #[] 5)).trans hba)
        clear howna hba
        go_wp2_with (at_builtin; refine append_own rfl _ _ rfl wb1.heap.size va ([] ++ E2) rfl HOA.out A c l l.length rfl rfl (HY.out.on (bstep HB4.out HBA.out)) (by have := HM2.out; have := HN2.out; have := L5.out; simp; omega) HBA.out.size ?_; intro vb wb2 hownb hbb; refine Hid.out ?_)
        refine Lib.hid ?_
        have HOB := Lib.hid hownb.inY
        have HBB := Lib.hid (HBA.out.trans hbb)
        clear hownb hbb HOA HBA
        go_wp2_with fail
        refine (text_is K2.out vb wb2 HOB.out (by have := HM2.out; have := HN2.out; have := L5.out; simp; omega)).mono ?_
        rintro e0 w0 ⟨rfl, rfl⟩
        have HB5 := Lib.hid (bstep HB4.out HBB.out)
        have HW := Lib.hid (HV3.out.on HBB.out)
        clear HV3
        have HV3 := HW
        clear HW
        clear HOB HBB HB4 HV2
        go_wp2_with (at_builtin; refine append_own rfl _ _ rfl wb2.heap.size (.slice (some ⟨wb2.heap.size, 0, none⟩) 0 0) [] rfl (OwnY.empty wb2) A3 c3 E3 N3 HN3.out rfl (HV3.out.on (below_alloc _ _)) (by have := HM3.out; have := HN3.out; simp; omega) (below_alloc _ _).size ?_; intro va wa howna hba; refine Hid.out ?_)
        refine Lib.hid ?_
        have HOA := Lib.hid howna
        have HBA := Lib.hid ((below_alloc wb2 (.cells #[] 5)).trans hba)
        clear howna hba
        go_wp2_with (at_builtin; refine append_own rfl _ _ rfl wb2.heap.size va ([] ++ E3) rfl HOA.out A c l l.length rfl rfl (HY.out.on (bstep HB5.out HBA.out)) (by have := HM3.out; have := HN3.out; have := L5.out; simp; omega) HBA.out.size ?_; intro vb wb3 hownb hbb; refine Hid.out ?_)
        refine Lib.hid ?_
        have HOB := Lib.hid hownb.inY
        have HBB := Lib.hid (HBA.out.trans hbb)
        clear hownb hbb HOA HBA
        go_wp2_with fail
        refine (list_is K3.out vb wb3 HOB.out (by have := HM3.out; have := HN3.out; have := L5.out; simp; omega)).mono ?_
        rintro e0 w6 ⟨vz, rfl, hz, hbz⟩
        have HZ := Lib.hid hz
        have HB6 := Lib.hid (bstep (bstep HB5.out HBB.out) hbz)
        clear hz hbz HOB HBB
        go_wp2_with fail
        refine (ref_Ints vz _ xs xs w6 HZ.out (HII.out.on HB6.out) (by have := L3.out; omega) (by have := L3.out; omega)).mono ?_
        rw [decide_eq_true rfl]
        rintro e0 w7 ⟨rfl, hb7⟩
        have HB7 := Lib.hid (bstep HB6.out hb7)
        clear hb7
        go_wp2_with fail
        refine (awake_true w7).mono ?_
        rintro e0 wz ⟨rfl, hbz⟩
        have HBZ := Lib.hid (bstep HB7.out hbz)
        clear hbz
        go_wp2_with fail
        go_ret
        exact ⟨rfl, HBZ.out⟩
#print axioms walk_WireRoundTrip
end Go.Proofs.Ythcbkjdjkmnbiaa.Wire
