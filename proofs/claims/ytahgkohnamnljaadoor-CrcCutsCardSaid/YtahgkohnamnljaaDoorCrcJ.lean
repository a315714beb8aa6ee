/- The examples; walks of CrcSums, CrcOpens, CrcAlls, CrcParts. -/
import Derived.Test.YtahgkohnamnljaaDoorCrcI
import Derived.Test.YtahgkohnamnljaaDoorWireY
import Derived.Lib.UnsafeStr
namespace Go.Proofs.YtahgkohnamnljaaDoor.Crc
open Go.ChangeShapes Go.WideShapes Go.RowKit
open Wire (Byt InY OwnY below_alloc lt_get bstep get_lt ret_int ret_bool wrap_id byte_of in_lit in_y append_own)
set_option linter.unusedVariables false
set_option maxRecDepth 100000

/-! ### With named results -/
theorem frame_is {l : List UInt8} (h : l.length ≤ 65536) {r : List UInt8} (hr : frame l = r) (v : Value) (w : World) (hv : InY w v l) (ht : Tab w) :
    Calls Tryd.prog 17 #[v] w fun e w' => ∃ v', e = .returned (.tuple #[v', .int .i64 0]) ∧ OwnY w.heap.size w' v' r ∧ Below w.heap.size w w' := by
  refine (crc_Frame v l w hv (by omega) ht).mono ?_
  rintro e w' ⟨v', rfl, ho, hb⟩
  rw [show frmL l = r by unfold frmL; rw [if_pos h, hr]] at ho
  exact ⟨v', by rw [show frmE l = 0 from if_pos h], ho, hb⟩
theorem open_is {l c : List UInt8} {k : Nat} {e0 : Int} (h : openR l = ⟨c, k, e0⟩) (hl : l.length ≤ 1000000) (v : Value) (w : World) (hv : InY w v l) (ht : Tab w) :
    Calls Tryd.prog 20 #[v] w fun e w' => ∃ v', e = .returned (.tuple #[v', .int .i64 (k : Int), .int .i64 e0]) ∧ NewY w.heap.size w' v' c ∧ Below w.heap.size w w' := by
  have := crc_Open v l w hv hl ht
  rw [h] at this; exact this
theorem same_yes {l : List UInt8} (v v' : Value) (w : World) (h : InY w v l) (h' : InY w v' l) :
    Calls Tryd.prog 19 #[v, v'] w fun e w' => e = .returned (.bool true) ∧ Below w.heap.size w w' := by
  have := ref_Eq v v' l l w h h'
  rw [decide_eq_true rfl] at this; exact this
theorem sum_is {l : List UInt8} {s : Nat} (h : chk l = s) (hl : l.length ≤ 1000000) (v : Value) (w : World) (hv : InY w v l) (ht : Tab w) :
    Calls Tryd.prog 13 #[v] w fun e w' => e = .returned (.int .u32 (s : Int)) ∧ w = w' := by
  have := crc_Sum v l w hv hl ht
  rw [h] at this; exact this

/-! ### awake -/
theorem cell_freeze (W : World) (p : Addr) (n : Nat) (a : Addr) : (W.freeze p n).cell? a = W.cell? a := by
  unfold World.freeze
  split
  · rfl
  · unfold World.cell?
    simp only [Array.getElem?_modify]
    by_cases hp : p.block = a.block
    · rw [if_pos hp]
      cases W.heap[a.block]? with
      | none => rfl
      | some o => cases o <;> rfl
    · rw [if_neg hp]
/-- '[]byte(..)' of a constant. -/
theorem conv_lit (w : World) (l : List UInt8) (h : l.length ≤ 1000000) {n : Nat} (hn : n = l.length) :
    ∃ w1, (convert 22 22 (.slice (some ⟨w.heap.size, 0, none⟩) n n)).run Tryd.prog (w.alloc (.cells (Wire.cells l).toArray 5)) = .ok (.slice (some ⟨w.heap.size, 0, none⟩) n n) w1 ∧ InY w1 (.slice (some ⟨w.heap.size, 0, none⟩) n n) l ∧ Below w.heap.size w w1 := by
  subst hn
  have hsh : (w.alloc (.cells (Wire.cells l).toArray 5)).shape? w.heap.size = some (5, (Wire.cells l).toArray.size) := by
    unfold World.shape?
    rw [heap_alloc_new]
  refine ⟨(w.alloc (.cells (Wire.cells l).toArray 5)).freeze ⟨w.heap.size, (Wire.cells l).toArray.size, none⟩ 1, ?_, ?_, ?_⟩
  · simp [convert, run_underlying Tryd.underlying22, run_underlying Tryd.underlying5, markStringish, hsh, -World.alloc_eq]
  · refine ⟨_, _, rfl, Nat.le_refl _, by unfold maxLen; omega, fun k b hb => ?_⟩
    obtain ⟨g, off, e, hlt, hc⟩ := Wire.byt_lit w 5 l k b hb
    cases e
    refine ⟨_, _, rfl, Nat.lt_of_lt_of_le hlt (Nat.le_of_eq ?_), (cell_freeze _ _ _ _).trans hc⟩
    unfold World.freeze
    rw [if_neg (by decide)]
    exact (Array.size_modify).symm
  · exact Lib.below_freeze (below_alloc _ _) (Nat.le_refl _) 1
theorem code2 : Wire.codeN 1 = 2 := by decide
theorem code0 : Wire.codeN 0 = 0 := by decide
theorem frame_a : frame [97] = [2, 97, 232, 183, 190, 67] := by
  unfold frame Wire.encI
  rw [show Wire.codeN (([97] : List UInt8).length : Int) = 2 from code2, Wire.enc_one (by omega)]
  decide +kernel
theorem frame_0 : frame [] = [0, 0, 0, 0, 0] := by
  unfold frame Wire.encI
  rw [show Wire.codeN (([] : List UInt8).length : Int) = 0 from code0, Wire.enc_one (by omega)]
  decide +kernel
theorem sum_9 : chk [49, 50, 51, 52, 53, 54, 55, 56, 57] = 3421780262 := by decide +kernel
theorem sum_a : chk [97] = 3904355907 := by decide +kernel
theorem all_12 : allR [2, 97, 232, 183, 190, 67, 0, 0, 0, 0, 0, 2] = ⟨[[97], []], 11⟩ := by kernel_rfl
theorem aw_frame1 (w : World) (ht : Tab w) : Calls Tryd.prog 17 #[.slice (some ⟨w.heap.size, 0, none⟩) 1 1] (w.alloc (.cells #[.int .u8 97] 5)) fun e w' => ∃ v, e = .returned (.tuple #[v, .int .i64 0]) ∧ InY w' v [2, 97, 232, 183, 190, 67] ∧ Below w.heap.size w w' := by
  refine (frame_is (l := [97]) (by decide) frame_a _ _ (in_lit w _ [97] (by decide)) (ht.on (below_alloc _ _))).mono ?_
  rintro e w1 ⟨v, rfl, ho, hb⟩
  exact ⟨v, rfl, ho.inY, bstep (below_alloc _ _) hb⟩
theorem aw_frame0 (w : World) (ht : Tab w) : Calls Tryd.prog 17 #[.slice none 0 0] w fun e w' => ∃ v, e = .returned (.tuple #[v, .int .i64 0]) ∧ InY w' v [0, 0, 0, 0, 0] ∧ Below w.heap.size w w' := by
  refine (frame_is (l := []) (by decide) frame_0 _ _ (InY.nil w) ht).mono ?_
  rintro e w1 ⟨v, rfl, ho, hb⟩
  exact ⟨v, rfl, ho.inY, hb⟩
theorem aw_conv9 (w : World) : ∃ w1, (convert 22 22 (.slice (some ⟨w.heap.size, 0, none⟩) 9 9)).run Tryd.prog (w.alloc (.cells #[.int .u8 49, .int .u8 50, .int .u8 51, .int .u8 52, .int .u8 53, .int .u8 54, .int .u8 55, .int .u8 56, .int .u8 57] 5)) = .ok (.slice (some ⟨w.heap.size, 0, none⟩) 9 9) w1 ∧ InY w1 (.slice (some ⟨w.heap.size, 0, none⟩) 9 9) [49, 50, 51, 52, 53, 54, 55, 56, 57] ∧ Below w.heap.size w w1 :=
  conv_lit w [49, 50, 51, 52, 53, 54, 55, 56, 57] (by decide) rfl
theorem aw_sum1 (w : World) (ht : Tab w) : Calls Tryd.prog 13 #[.slice (some ⟨w.heap.size, 0, none⟩) 1 1] (w.alloc (.cells #[.int .u8 97] 5)) fun e w' => e = .returned (.int .u32 3904355907) ∧ Below w.heap.size w w' := by
  refine (sum_is sum_a (by decide) _ _ (in_lit w _ [97] (by decide)) (ht.on (below_alloc _ _))).mono ?_
  rintro e w1 ⟨rfl, rfl⟩
  exact ⟨rfl, below_alloc _ _⟩
theorem aw_sum0 (w : World) (ht : Tab w) : Calls Tryd.prog 13 #[.slice none 0 0] w fun e w' => e = .returned (.int .u32 0) ∧ Below w.heap.size w w' := by
  refine (sum_is chk_nil (by decide) _ _ (InY.nil w) ht).mono ?_
  rintro e w1 ⟨rfl, rfl⟩
  exact ⟨rfl, Below.refl _ _⟩
theorem aw_same6 (w : World) (v : Value) (h : InY w v [2, 97, 232, 183, 190, 67]) : Calls Tryd.prog 19 #[v, .slice (some ⟨w.heap.size, 0, none⟩) 6 6] (w.alloc (.cells #[.int .u8 2, .int .u8 97, .int .u8 232, .int .u8 183, .int .u8 190, .int .u8 67] 5)) fun e w' => e = .returned (.bool true) ∧ Below w.heap.size w w' := by
  refine (same_yes v _ _ (h.on (below_alloc _ _)) (in_lit w _ [2, 97, 232, 183, 190, 67] (by decide))).mono ?_
  rintro e w1 ⟨rfl, hb⟩
  exact ⟨rfl, bstep (below_alloc _ _) hb⟩
theorem aw_same5 (w : World) (v : Value) (h : InY w v [0, 0, 0, 0, 0]) : Calls Tryd.prog 19 #[v, .slice (some ⟨w.heap.size, 0, none⟩) 5 5] (w.alloc (.cells #[.int .u8 0, .int .u8 0, .int .u8 0, .int .u8 0, .int .u8 0] 5)) fun e w' => e = .returned (.bool true) ∧ Below w.heap.size w w' := by
  refine (same_yes v _ _ (h.on (below_alloc _ _)) (in_lit w _ [0, 0, 0, 0, 0] (by decide))).mono ?_
  rintro e w1 ⟨rfl, hb⟩
  exact ⟨rfl, bstep (below_alloc _ _) hb⟩
theorem aw_same1 (w : World) (v : Value) (h : InY w v [97]) : Calls Tryd.prog 19 #[v, .slice (some ⟨w.heap.size, 0, none⟩) 1 1] (w.alloc (.cells #[.int .u8 97] 5)) fun e w' => e = .returned (.bool true) ∧ Below w.heap.size w w' := by
  refine (same_yes v _ _ (h.on (below_alloc _ _)) (in_lit w _ [97] (by decide))).mono ?_
  rintro e w1 ⟨rfl, hb⟩
  exact ⟨rfl, bstep (below_alloc _ _) hb⟩
theorem aw_all (w : World) (ht : Tab w) : Calls Tryd.prog 22 #[.slice (some ⟨w.heap.size, 0, none⟩) 12 12] (w.alloc (.cells #[.int .u8 2, .int .u8 97, .int .u8 232, .int .u8 183, .int .u8 190, .int .u8 67, .int .u8 0, .int .u8 0, .int .u8 0, .int .u8 0, .int .u8 0, .int .u8 2] 5)) fun e w' =>
    ∃ b off c A1 c1 A2 c2, e = .returned (.tuple #[.slice (some ⟨b, off, none⟩) 2 c, .int .i64 11]) ∧ b < w'.heap.size ∧ w'.cell? ⟨b, off, none⟩ = some (.slice A1 1 c1) ∧ w'.cell? ⟨b, off + 1, none⟩ = some (.slice A2 0 c2) ∧ InY w' (.slice A1 1 c1) [97] ∧ Below w.heap.size w w' := by
  have := crc_All _ [2, 97, 232, 183, 190, 67, 0, 0, 0, 0, 0, 2] _ (in_lit w 5 [2, 97, 232, 183, 190, 67, 0, 0, 0, 0, 0, 2] (by decide)) (by decide) (ht.on (below_alloc _ _))
  rw [all_12] at this
  refine this.mono ?_
  rintro e w1 ⟨v, rfl, ho, hb⟩
  obtain ⟨A, c, rfl, _, _, hg⟩ := ho.grd
  obtain ⟨b, off, rfl, hlt, A1, c1, hc1, h1, h2, h3⟩ := hg 0 [97] rfl
  obtain ⟨b', off', e', _, A2, c2, hc2, _⟩ := hg 1 [] rfl
  cases e'
  exact ⟨b, off, c, A1, c1, A2, c2, rfl, hlt, hc1, hc2, ⟨A1, c1, rfl, h1, h2, h3⟩, bstep (below_alloc _ _) hb⟩
set_option maxHeartbeats 1600000 in
theorem awake_true (w : World) (ht : Tab w) : Calls Tryd.prog 12 #[] w fun e w' => e = .returned (.bool true) ∧ Below w.heap.size w w' := by
  have HT := Lib.hid ht
  clear ht
  go_enter Tryd.func12, Tryd.ntmps12
  go_wp2_with fail
  refine (aw_frame1 w HT.out).mono ?_
  rintro e w1 ⟨v1, rfl, hv1, hb⟩
  have HV1 := Lib.hid hv1
  have HB1 := Lib.hid hb
  clear hb hv1
  go_wp2_with fail
  refine (aw_frame0 w1 (HT.out.on HB1.out)).mono ?_
  rintro e w2 ⟨v2, rfl, hv2, hb⟩
  have HV2 := Lib.hid hv2
  have HV1b := Lib.hid (HV1.out.on hb)
  have HB2 := Lib.hid (bstep HB1.out hb)
  clear hb hv2
  obtain ⟨w3, hcv, hi3, hb3⟩ := aw_conv9 w2
  have HI3 := Lib.hid hi3
  have HB3 := Lib.hid (bstep HB2.out hb3)
  have HC3 := Lib.hid hb3
  clear hi3 hb3
  go_wp2_with fail
  refine (sum_is sum_9 (by decide) _ w3 HI3.out (HT.out.on HB3.out)).mono ?_
  rintro e w3' ⟨rfl, rfl⟩
  clear hcv
  go_wp2_with fail
  refine (aw_sum1 w3 (HT.out.on HB3.out)).mono ?_
  rintro e w4 ⟨rfl, hb⟩
  have HB4 := Lib.hid (bstep HB3.out hb)
  have HC4 := Lib.hid (bstep HC3.out hb)
  clear hb
  go_wp2_with fail
  refine (aw_sum0 w4 (HT.out.on HB4.out)).mono ?_
  rintro e w5 ⟨rfl, hb⟩
  have HB5 := Lib.hid (bstep HB4.out hb)
  have HC5 := Lib.hid (bstep HC4.out hb)
  clear hb
  go_wp2_with fail
  refine (aw_same6 w5 v1 (HV1b.out.on HC5.out)).mono ?_
  rintro e w6 ⟨rfl, hb⟩
  have HB6 := Lib.hid (bstep HB5.out hb)
  have HC6 := Lib.hid (bstep HC5.out hb)
  clear hb
  go_wp2_with fail
  refine (aw_same5 w6 v2 (HV2.out.on HC6.out)).mono ?_
  rintro e w7 ⟨rfl, hb⟩
  have HB7 := Lib.hid (bstep HB6.out hb)
  clear hb
  go_wp2_with fail
  refine (aw_all w7 (HT.out.on HB7.out)).mono ?_
  rintro e w8 ⟨b, off, c, A1, c1, A2, c2, rfl, hlt, hc1, hc2, hi, hb⟩
  have HB8 := Lib.hid (bstep HB7.out hb)
  have HI := Lib.hid hi
  have HL := Lib.hid hlt
  have HC2 := Lib.hid hc2
  clear hb hi hc2
  go_wp2_with fail
  refine (aw_same1 w8 _ HI.out).mono ?_
  rintro e w9 ⟨rfl, hb⟩
  have HB9 := Lib.hid (bstep HB8.out hb)
  have hc9 : w9.cell? ⟨b, off + 1, none⟩ = some (.slice A2 0 c2) := (hb.cell (p := ⟨b, off + 1, none⟩) HL.out).trans HC2.out
  have hlt9 : b < w9.heap.size := Nat.lt_of_lt_of_le HL.out hb.size
  clear hb hc1 hlt
  go_wp2_with fail
  go_ret
  exact ⟨rfl, HB9.out⟩

/-! ### The laws -/
theorem wf_u32 {n : Int} (h : (Lit.int .u32 n).wf = true) : ∃ m : Nat, n = (m : Int) ∧ m < 4294967296 := by
  have h1 : 0 ≤ n ∧ n ≤ 4294967295 := by simpa [Lit.wf, IntKind.min, IntKind.max, IntKind.signed, IntKind.bits] using h
  exact ⟨n.toNat, by omega, by omega⟩
theorem wf_u16 {n : Int} (h : (Lit.int .u16 n).wf = true) : ∃ m : Nat, n = (m : Int) ∧ m < 65536 := by
  have h1 : 0 ≤ n ∧ n ≤ 65535 := by simpa [Lit.wf, IntKind.min, IntKind.max, IntKind.signed, IntKind.bits] using h
  exact ⟨n.toNat, by omega, by omega⟩
theorem wf_u8 {n : Int} (h : (Lit.int .u8 n).wf = true) : ∃ b : UInt8, n = (b.toNat : Int) := by
  have h1 := Wire.wf_byte h
  exact ⟨UInt8.ofNat n.toNat, by rw [byte_of (by omega)]; omega⟩
set_option maxHeartbeats 800000 in
theorem walk_CrcSums (w : World) (A : Option Addr) (n c : Nat) (zs : List Int) (h : InInts .u8 w A n c zs) (m : Int) (hm : (Lit.int .u32 m).wf = true) (ht : Tab w) :
    Calls Tryd.prog 3 #[.slice A n c, .int .u32 m] w fun e w' => e = .returned (.bool true) ∧ Below w.heap.size w w' := by
  obtain ⟨l, rfl, hy⟩ := in_y h
  have hs := hy.small
  have HY := Lib.hid hy
  have HT := Lib.hid ht
  obtain ⟨m, rfl, hm2⟩ := wf_u32 hm
  clear h hy ht
  rcases Nat.lt_or_ge 4000 l.length with hb | hb
  · have hb1 : (4000 : Int) < (l.length : Int) := by omega
    go_enter Tryd.func3, Tryd.ntmps3
    go_wp2_with fail
    refine (awake_true w HT.out).mono ?_
    rintro ez wz ⟨rfl, hbz⟩
    have HBZ := Lib.hid hbz
    clear hbz
    go_wp2_with fail
    go_ret
    exact ⟨rfl, HBZ.out⟩
  · have hb1 : decide ((4000 : Int) < (l.length : Int)) = false := decide_eq_false (by omega)
    have H1 := Lib.hid (crc_Sum _ l w HY.out (by omega) HT.out)
    have H2 := Lib.hid (ref_Sum _ l w HY.out (by omega))
    have H3 := Lib.hid (crc_Extend m _ l w hm2 HY.out (by omega) HT.out)
    have H4 := Lib.hid (ref_Extend m _ l w hm2 HY.out (by omega))
    clear hm hm2
    go_enter Tryd.func3, Tryd.ntmps3
    go_wp2_with fail
    refine H1.out.mono ?_
    rintro e1 w1 ⟨rfl, rfl⟩
    go_wp2_with fail
    refine H2.out.mono ?_
    rintro e1 w1 ⟨rfl, rfl⟩
    go_wp2_with fail
    refine H3.out.mono ?_
    rintro e1 w1 ⟨rfl, rfl⟩
    go_wp2_with fail
    refine H4.out.mono ?_
    rintro e1 w1 ⟨rfl, rfl⟩
    go_wp2_with fail
    refine (awake_true w HT.out).mono ?_
    rintro ez wz ⟨rfl, hbz⟩
    have HBZ := Lib.hid hbz
    clear hbz
    go_wp2_with fail
    go_ret
    exact ⟨rfl, HBZ.out⟩
set_option maxHeartbeats 800000 in
theorem walk_CrcOpens (w : World) (A : Option Addr) (n c : Nat) (zs : List Int) (h : InInts .u8 w A n c zs) (ht : Tab w) :
    Calls Tryd.prog 5 #[.slice A n c] w fun e w' => e = .returned (.bool true) ∧ Below w.heap.size w w' := by
  obtain ⟨l, rfl, hy⟩ := in_y h
  have hs := hy.small
  have HY := Lib.hid hy
  have HT := Lib.hid ht
  clear h hy ht
  rcases Nat.lt_or_ge 4000 l.length with hb | hb
  · have hb1 : (4000 : Int) < (l.length : Int) := by omega
    go_enter Tryd.func5, Tryd.ntmps5
    go_wp2_with fail
    refine (awake_true w HT.out).mono ?_
    rintro ez wz ⟨rfl, hbz⟩
    have HBZ := Lib.hid hbz
    clear hbz
    go_wp2_with fail
    go_ret
    exact ⟨rfl, HBZ.out⟩
  · have hb1 : decide ((4000 : Int) < (l.length : Int)) = false := decide_eq_false (by omega)
    have H1 := Lib.hid (crc_Open _ l w HY.out (by omega) HT.out)
    have H2 := Lib.hid (fun W hW => ref_Open _ l W (HY.out.on hW) (by omega))
    obtain ⟨t, ht⟩ : ∃ t, openR l = t := ⟨_, rfl⟩
    rw [ht] at H1 H2
    obtain ⟨x, k, e⟩ := t
    clear ht
    go_enter Tryd.func5, Tryd.ntmps5
    go_wp2_with fail
    refine H1.out.mono ?_
    rintro e1 w1 ⟨v1, rfl, hn1, hb1⟩
    have HN1 := Lib.hid hn1.inY
    have HB1 := Lib.hid hb1
    clear hn1 hb1
    go_wp2_with fail
    refine (H2.out w1 HB1.out).mono ?_
    rintro e1 w2 ⟨v2, rfl, hn2, hb2⟩
    have HN2 := Lib.hid hn2.inY
    have HN1b := Lib.hid (HN1.out.on hb2)
    have HB2 := Lib.hid (bstep HB1.out hb2)
    clear hn2 hb2
    go_wp2_with fail
    refine (same_yes _ _ w2 HN1b.out HN2.out).mono ?_
    rintro e1 w3 ⟨rfl, hb3⟩
    have HB3 := Lib.hid (bstep HB2.out hb3)
    clear hb3
    go_wp2_with fail
    refine (awake_true w3 (HT.out.on HB3.out)).mono ?_
    rintro ez wz ⟨rfl, hbz⟩
    have HBZ := Lib.hid (bstep HB3.out hbz)
    clear hbz
    go_wp2_with fail
    go_ret
    exact ⟨rfl, HBZ.out⟩
#print axioms awake_true
#print axioms walk_CrcSums
#print axioms walk_CrcOpens
end Go.Proofs.YtahgkohnamnljaaDoor.Crc
