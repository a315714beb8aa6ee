/- Contracts of sumBytes, Frame of the program, of four, Frame, Same of the reference, and of bytes.Equal. -/
import Derived.Test.YtahgkohnamnljaaDoorCrcE
import Derived.Test.YtahgkohnamnljaaDoorWireS
namespace Go.Proofs.YtahgkohnamnljaaDoor.Crc
open Go.ChangeShapes Go.WideShapes Go.RowKit
open Wire (Byt InY OwnY below_alloc lt_get bstep get_lt ret_int ret_bool wrap_id byte_of cells Puts append_own conv_at encI encI_ten len_isI encT ls_len ls bs bs_list wire_PutText ref_PutInt)
set_option linter.unusedVariables false
set_option maxRecDepth 100000

/-! ### Four bytes -/
def byt4 (n : Nat) : Array Value := #[.int .u8 ((n / 16777216 % 256 : Nat) : Int), .int .u8 ((n / 65536 % 256 : Nat) : Int), .int .u8 ((n / 256 % 256 : Nat) : Int), .int .u8 ((n % 256 : Nat) : Int)]
theorem byt4_cells (n : Nat) : byt4 n = (cells (four n)).toArray := by
  unfold byt4 cells four
  simp only [List.map_cons, List.map_nil]
  rw [byte_of (by omega), byte_of (by omega), byte_of (by omega), byte_of (by omega)]
theorem own_four (w : World) (n : Nat) : OwnY w.heap.size (w.alloc (.cells (byt4 n) 5)) (.slice (some ⟨w.heap.size, 0, none⟩) 4 4) (four n) := by
  rw [byt4_cells]
  exact World.ownsRow_lit (base := w.heap.size) (e := 5) (size := 1) w (cells (four n)).toArray 4 (Nat.le_refl _) (by unfold maxLen; omega) rfl
theorem wrap_part {n d : Nat} : IntKind.u8.wrap ((n : Int) / (d : Int)) = ((n / d % 256 : Nat) : Int) := by
  rw [IntKind.wrap_u8']; simp
theorem and_part {n d : Nat} (h : n < 4294967296) : bits .and .u32 ((n : Int) / (d : Int)) 255 = ((n / d % 256 : Nat) : Int) := by
  have h1 : n / d < 4294967296 := Nat.lt_of_le_of_lt (Nat.div_le_self n d) h
  have := and_255 h1
  simpa using this
theorem crc_sumBytes (v : Value) (l : List UInt8) (w : World) (hv : InY w v l) (hl : l.length ≤ 1000000) (ht : Tab w) :
    Calls Tryd.prog 27 #[v] w (Puts w (four (chk l))) := by
  have HC := Lib.hid (crc_Sum v l w hv hl ht)
  have hs := chk_lt l
  obtain ⟨S, hS⟩ : ∃ S, S = chk l := ⟨_, rfl⟩
  rw [← hS] at HC hs ⊢
  obtain ⟨b0, e0⟩ : ∃ b : Int, b = ((S / 16777216 % 256 : Nat) : Int) := ⟨_, rfl⟩
  obtain ⟨b1, e1⟩ : ∃ b : Int, b = ((S / 65536 % 256 : Nat) : Int) := ⟨_, rfl⟩
  obtain ⟨b2, e2⟩ : ∃ b : Int, b = ((S / 256 % 256 : Nat) : Int) := ⟨_, rfl⟩
  obtain ⟨b3, e3⟩ : ∃ b : Int, b = ((S % 256 : Nat) : Int) := ⟨_, rfl⟩
  have h0 : IntKind.u8.wrap ((S : Int) / 16777216) = b0 := by rw [e0]; exact wrap_part (d := 16777216)
  have h1 : IntKind.u8.wrap ((S : Int) / 65536) = b1 := by rw [e1]; exact wrap_part (d := 65536)
  have h2 : IntKind.u8.wrap ((S : Int) / 256) = b2 := by rw [e2]; exact wrap_part (d := 256)
  have h3 : IntKind.u8.wrap (S : Int) = b3 := by rw [e3]; exact wrap_low S
  have HO : Hid (OwnY w.heap.size (w.alloc (.cells #[.int .u8 b0, .int .u8 b1, .int .u8 b2, .int .u8 b3] 5)) (.slice (some ⟨w.heap.size, 0, none⟩) 4 4) (four S)) := by
    subst e0 e1 e2 e3; exact own_four w S
  clear hv ht hS e0 e1 e2 e3
  go_enter Tryd.func27, Tryd.ntmps27
  go_wp2_with fail
  refine HC.out.mono ?_
  rintro e w1 ⟨rfl, rfl⟩
  go_wp2_with fail
  go_ret
  exact ⟨_, rfl, HO.out, below_alloc _ _⟩
theorem ref_four (S : Nat) (w : World) (hs : S < 4294967296) : Calls Tryd.prog 29 #[.int .u32 (S : Int)] w (Puts w (four S)) := by
  obtain ⟨b0, e0⟩ : ∃ b : Int, b = ((S / 16777216 % 256 : Nat) : Int) := ⟨_, rfl⟩
  obtain ⟨b1, e1⟩ : ∃ b : Int, b = ((S / 65536 % 256 : Nat) : Int) := ⟨_, rfl⟩
  obtain ⟨b2, e2⟩ : ∃ b : Int, b = ((S / 256 % 256 : Nat) : Int) := ⟨_, rfl⟩
  obtain ⟨b3, e3⟩ : ∃ b : Int, b = ((S % 256 : Nat) : Int) := ⟨_, rfl⟩
  have h0 : IntKind.u8.wrap ((S : Int) / 16777216) = b0 := by rw [e0]; exact wrap_part (d := 16777216)
  have h1 : bits .and .u32 ((S : Int) / 65536) 255 = b1 := by rw [e1]; exact and_part (d := 65536) hs
  have h2 : bits .and .u32 ((S : Int) / 256) 255 = b2 := by rw [e2]; exact and_part (d := 256) hs
  have h3 : bits .and .u32 (S : Int) 255 = b3 := by rw [e3]; exact and_255 hs
  have k1 : IntKind.u8.wrap b1 = b1 := by rw [IntKind.wrap_u8']; omega
  have k2 : IntKind.u8.wrap b2 = b2 := by rw [IntKind.wrap_u8']; omega
  have k3 : IntKind.u8.wrap b3 = b3 := by rw [IntKind.wrap_u8']; omega
  have HO : Hid (OwnY w.heap.size (w.alloc (.cells #[.int .u8 b0, .int .u8 b1, .int .u8 b2, .int .u8 b3] 5)) (.slice (some ⟨w.heap.size, 0, none⟩) 4 4) (four S)) := by
    subst e0 e1 e2 e3; exact own_four w S
  clear e0 e1 e2 e3
  go_enter Tryd.func29, Tryd.ntmps29
  go_wp2_with fail
  go_ret
  exact ⟨_, rfl, HO.out, below_alloc _ _⟩

/-! ### Frame -/
def frmL (l : List UInt8) : List UInt8 := if l.length ≤ 65536 then frame l else []
def frmE (l : List UInt8) : Int := if l.length ≤ 65536 then 0 else 8
def FRes (l : List UInt8) (w : World) (e : Ending) (w' : World) : Prop := ∃ v, e = .returned (.tuple #[v, .int .i64 (frmE l)]) ∧ OwnY w.heap.size w' v (frmL l) ∧ Below w.heap.size w w'
theorem frame_def (l : List UInt8) : frame l = encI (l.length : Int) ++ l ++ four (chk l) := by unfold frame; rw [List.append_assoc]
theorem own_in {B : Nat} {w : World} {v : Value} {l : List UInt8} (h : OwnY B w v l) : ∃ A c, v = .slice A l.length c ∧ l.length ≤ c ∧ Byt w A l := by
  obtain ⟨A, c, e, h1, _, h3⟩ := h.inY
  exact ⟨A, c, e, h1, h3⟩
set_option maxHeartbeats 800000 in
theorem crc_Frame (v : Value) (l : List UInt8) (w : World) (hv : InY w v l) (hl : l.length ≤ 900000) (ht : Tab w) :
    Calls Tryd.prog 17 #[v] w (FRes l w) := by
  have HV := Lib.hid hv
  have HT := Lib.hid ht
  obtain ⟨A, c, rfl, hc, _, hb⟩ := hv
  have HB := Lib.hid hb
  obtain ⟨N, hN⟩ : ∃ N, N = l.length := ⟨_, rfl⟩
  have HN := Lib.hid hN
  rw [← hN] at hl HV ⊢
  clear hb ht
  rcases Nat.lt_or_ge 65536 N with h | h
  · have HE : Hid (frmE l = 8) := show _ = _ from if_neg (by omega)
    have HL : Hid (frmL l = []) := show _ = _ from if_neg (by omega)
    clear hN
    go_enter Tryd.func17, Tryd.ntmps17
    go_wp2_with fail
    go_ret2
    exact ⟨_, by rw [HE.out]; rfl, by rw [HL.out]; exact OwnY.nil _ _, Below.refl _ _⟩
  · have h' : decide (65536 < N) = false := decide_eq_false (by omega)
    have HE : Hid (frmE l = 0) := show _ = _ from if_pos (by omega)
    have HL : Hid (frmL l = encI (N : Int) ++ l ++ four (chk l)) := show _ = _ by rw [hN, ← frame_def]; exact if_pos (by omega)
    have hcv := conv_at (c := c) HB.out hN.symm
    obtain ⟨s, hs⟩ : ∃ s, s = bs l := ⟨_, rfl⟩
    have hss : s.size = N := by rw [hs, ← ls_len, hN]; exact congrArg List.length (bs_list l)
    have HLS : Hid (ls s = l) := show _ = _ by rw [hs]; exact bs_list l
    rw [← hs] at hcv
    have HI : Hid ((encI (N : Int)).length ≤ 10) := encI_ten (len_isI (by omega))
    have HTX : Hid ([] ++ encT (ls s) = encI (N : Int) ++ l) := show _ = _ by rw [HLS.out]; unfold encT; rw [hN]; rfl
    have HP := Lib.hid (wire_PutText (.slice none 0 0) [] s w (InY.nil w) (by simp) (by omega))
    rw [HTX.out] at HP
    clear hs hN
    go_enter Tryd.func17, Tryd.ntmps17
    go_wp2_with fail
    refine HP.out.mono ?_
    rintro e w1 ⟨v1, rfl, ho, hbel⟩
    have HO := Lib.hid ho
    have HBL := Lib.hid hbel
    clear ho hbel
    go_wp2_with fail
    refine (crc_sumBytes _ l w1 (by rw [HN.out]; rw [HN.out] at HV; exact HV.out.on HBL.out) (by rw [← HN.out]; omega) (HT.out.on HBL.out)).mono ?_
    rintro e w2 ⟨v2, rfl, ho2, hbel2⟩
    have HO2 := Lib.hid (HO.out.on hbel2)
    have HB2 := Lib.hid (bstep HBL.out hbel2)
    obtain ⟨A2, c2, rfl, hc2, hby⟩ := own_in ho2
    have HY := Lib.hid hby
    clear ho2 hbel2 hby
    go_wp2_with (at_builtin; refine append_own rfl _ _ rfl w.heap.size v1 (encI (N : Int) ++ l) rfl HO2.out A2 c2 (four (chk l)) (four (chk l)).length rfl rfl HY.out (by have := HI.out; rw [List.length_append, ← HN.out, four_len]; omega) HB2.out.size ?_; intro v3 w3 hown3 hb3; refine Hid.out ?_)
    refine Lib.hid ?_
    have HO3 := Lib.hid hown3
    have HB3 := Lib.hid (HB2.out.trans hb3)
    clear hown3 hb3
    go_wp2_with fail
    go_ret2
    exact ⟨v3, by rw [HE.out]; rfl, by rw [HL.out]; exact HO3.out, HB3.out⟩
set_option maxHeartbeats 800000 in
theorem ref_Frame (v : Value) (l : List UInt8) (w : World) (hv : InY w v l) (hl : l.length ≤ 900000) :
    Calls Tryd.prog 18 #[v] w (FRes l w) := by
  have HV := Lib.hid hv
  obtain ⟨A, c, rfl, hc, _, hb⟩ := hv
  have HB := Lib.hid hb
  obtain ⟨N, hN⟩ : ∃ N, N = l.length := ⟨_, rfl⟩
  have HN := Lib.hid hN
  rw [← hN] at hl HV ⊢
  clear hb
  rcases Nat.lt_or_ge 65536 N with h | h
  · have HE : Hid (frmE l = 8) := show _ = _ from if_neg (by omega)
    have HL : Hid (frmL l = []) := show _ = _ from if_neg (by omega)
    clear hN
    go_enter Tryd.func18, Tryd.ntmps18
    go_wp2_with fail
    go_ret2
    exact ⟨_, by rw [HE.out]; rfl, by rw [HL.out]; exact OwnY.nil _ _, Below.refl _ _⟩
  · have h' : decide (65536 < N) = false := decide_eq_false (by omega)
    have HE : Hid (frmE l = 0) := show _ = _ from if_pos (by omega)
    have HL : Hid (frmL l = encI (N : Int) ++ l ++ four (chk l)) := show _ = _ by rw [hN, ← frame_def]; exact if_pos (by omega)
    have HI : Hid ((encI (N : Int)).length ≤ 10) := encI_ten (len_isI (by omega))
    have HP := Lib.hid (ref_PutInt (.slice none 0 0) [] (N : Int) w (len_isI (by omega)) (InY.nil w) (by simp))
    rw [List.nil_append] at HP
    have hS := chk_lt l
    clear hN
    go_enter Tryd.func18, Tryd.ntmps18
    go_wp2_with fail
    refine HP.out.mono ?_
    rintro e w1 ⟨v1, rfl, ho, hbel⟩
    have HO := Lib.hid ho
    have HBL := Lib.hid hbel
    clear ho hbel
    go_wp2_with (at_builtin; refine append_own rfl _ _ rfl w.heap.size v1 (encI (N : Int)) rfl HO.out A c l N HN.out rfl (HB.out.on HBL.out) (by have := HI.out; rw [← HN.out]; omega) HBL.out.size ?_; intro v3 w3 hown3 hb3; refine Hid.out ?_)
    refine Lib.hid ?_
    have HO3 := Lib.hid hown3
    have HB3 := Lib.hid (HBL.out.trans hb3)
    clear hown3 hb3
    go_wp2_with fail
    refine (ref_Sum _ l w3 (by rw [HN.out]; rw [HN.out] at HV; exact HV.out.on HB3.out) (by rw [← HN.out]; omega)).mono ?_
    rintro e w4 ⟨rfl, rfl⟩
    go_wp2_with fail
    refine (ref_four (chk l) w3 hS).mono ?_
    rintro e w2 ⟨v2, rfl, ho2, hbel2⟩
    have HO2 := Lib.hid (HO3.out.on hbel2)
    have HB2 := Lib.hid (bstep HB3.out hbel2)
    obtain ⟨A2, c2, rfl, hc2, hby⟩ := own_in ho2
    have HY := Lib.hid hby
    clear ho2 hbel2 hby
    go_wp2_with (at_builtin; refine append_own rfl _ _ rfl w.heap.size v3 (encI (N : Int) ++ l) rfl HO2.out A2 c2 (four (chk l)) (four (chk l)).length rfl rfl HY.out (by have := HI.out; rw [List.length_append, ← HN.out, four_len]; omega) HB2.out.size ?_; intro v4 w5 hown4 hb4; refine Hid.out ?_)
    refine Lib.hid ?_
    have HO4 := Lib.hid hown4
    have HB4 := Lib.hid (HB2.out.trans hb4)
    clear hown4 hb4
    go_wp2_with fail
    go_ret2
    exact ⟨v4, by rw [HE.out]; rfl, by rw [HL.out]; exact HO4.out, HB4.out⟩

/-! ### Equal bytes -/
theorem bytes_Equal (v v' : Value) (l l' : List UInt8) (w : World) (h : InY w v l) (h' : InY w v' l') :
    Calls Tryd.prog 31 #[v, v'] w fun e w' => e = .returned (.bool (decide (l = l'))) ∧ w = w' := by
  obtain ⟨A, c, rfl, _, _, hb⟩ := h
  obtain ⟨A', c', rfl, _, _, hb'⟩ := h'
  have C := conv_at (c := c) hb rfl
  have C' := conv_at (c := c') hb' rfl
  clear hb hb'
  go_enter Tryd.func31, Tryd.ntmps31
  go_wp2_with fail
  go_ret
  refine ⟨ret_bool ?_, rfl⟩
  rw [Bool.eq_iff_iff]
  simp only [beq_iff_eq, decide_eq_true_eq]
  exact ⟨fun e => by rw [ByteArray.toList_eq, ByteArray.toList_eq, bs_list, bs_list] at e; exact e, fun e => by rw [e]⟩
theorem below_drewN {B : Nat} {a w : World} (h : Below B a w) (n : Nat) : Below B a (w.drewN n) := ⟨h.os, h.tape, h.output, h.size, h.block⟩
def Sm (l l' : List UInt8) (w : World) (i : Value) (wr : World) : Prop := ∃ k : Nat, i = .int .i64 (k : Int) ∧ k ≤ l.length ∧ l.take k = l'.take k ∧ ∃ n, wr = w.drewN n
set_option maxHeartbeats 800000 in
theorem ref_EqN (v v' : Value) (l l' : List UInt8) (w : World) (h : InY w v l) (h' : InY w v' l') :
    Calls Tryd.prog 19 #[v, v'] w fun e w' => e = .returned (.bool (decide (l = l'))) ∧ ∃ n, w' = w.drewN n := by
  obtain ⟨A, c, rfl, hc1, hc2, hb⟩ := h
  obtain ⟨A', c', rfl, _, _, hb'⟩ := h'
  have HB := Lib.hid hb
  have HB' := Lib.hid hb'
  clear hb hb'
  by_cases hl : l.length = l'.length
  · have HL := Lib.hid hl
    obtain ⟨N, hN⟩ : ∃ N, N = l.length := ⟨_, rfl⟩
    have HN := Lib.hid hN
    rw [← hl, ← hN]
    rw [← hN] at hc1
    have hm : N ≤ 9223372036854775807 := by unfold maxLen at hc2; omega
    clear hl hN hc1 hc2
    go_enter Tryd.func19, Tryd.ntmps19
    go_wp2_with fail
    go_loopw [5] (Sm l l' w) (fun i _ => N - (intOf i).toNat)
    case atStart => exact ⟨0, rfl, Nat.zero_le _, rfl, 0, rfl⟩
    case round =>
      obtain ⟨k, rfl, hk, hp, m, hwm⟩ := hrel
      rw [← HN.out] at hk
      have HP := Lib.hid hp
      have HW := Lib.hid hwm
      have HWB : Hid (Below w.heap.size w wr) := by rw [hwm]; exact below_drewN (Below.refl _ _) m
      clear hp hwm
      rcases Nat.lt_or_ge k N with hlt | hge
      · obtain ⟨b, hb⟩ := get_lt (L := l) (k := k) (by rw [← HN.out]; exact hlt)
        obtain ⟨b', hb'⟩ := get_lt (L := l') (k := k) (by rw [← HL.out, ← HN.out]; exact hlt)
        obtain ⟨g, off, rfl, hg, hcell⟩ := (HB.out.on HWB.out) k b hb
        obtain ⟨g', off', rfl, hg', hcell'⟩ := (HB'.out.on HWB.out) k b' hb'
        have HG := Lib.hid hb
        have HG' := Lib.hid hb'
        clear hb hb'
        by_cases he : b = b'
        · subst he
          obtain ⟨z, hz⟩ : ∃ z : Int, z = (b.toNat : Int) := ⟨_, rfl⟩
          rw [← hz] at hcell hcell'
          have h1 : (z != z) = false := by simp
          clear hz
          go_wp2_with fail
          go_quiet (fail)
          go_wp2_with fail
          go_roundw
          case rel => exact ⟨k + 1, by go_num, by rw [← HN.out]; omega, by rw [Wire.take_snoc_of HG.out, Wire.take_snoc_of HG'.out, HP.out], _, by rw [HW.out, World.drewN_drewN]⟩
          case measure => simp [intOf]; omega
        · have hne : b.toNat ≠ b'.toNat := fun e => he (UInt8.toNat_inj.mp e)
          obtain ⟨z, hz⟩ : ∃ z : Int, z = (b.toNat : Int) := ⟨_, rfl⟩
          obtain ⟨y, hy⟩ : ∃ y : Int, y = (b'.toNat : Int) := ⟨_, rfl⟩
          have h1 : (z != y) = true := by simp; omega
          rw [← hz] at hcell
          rw [← hy] at hcell'
          have HD : Hid (decide (l = l') = false) := decide_eq_false (by
            rintro rfl
            have h2 := HG.out
            rw [HG'.out] at h2
            exact he (Option.some.inj h2).symm)
          clear he hne hz hy
          go_wp2_with fail
          go_quiet (fail)
          go_wp2_with fail
          go_ret
          exact ⟨ret_bool HD.out.symm, _, by rw [HW.out, World.drewN_drewN]⟩
      · obtain rfl : k = N := by omega
        have HD : Hid (decide (l = l') = true) := decide_eq_true (by
          have h2 := HP.out
          rw [List.take_of_length_le (by rw [← HN.out]; exact Nat.le_refl _), List.take_of_length_le (by rw [← HL.out, ← HN.out]; exact Nat.le_refl _)] at h2
          exact h2)
        go_wp2_with fail
        go_ret
        exact ⟨ret_bool HD.out.symm, m, HW.out⟩
  · have hne : ((l.length : Int) != (l'.length : Int)) = true := by simp; omega
    have HD : Hid (decide (l = l') = false) := decide_eq_false (by rintro rfl; exact hl rfl)
    clear hl
    go_enter Tryd.func19, Tryd.ntmps19
    go_wp2_with fail
    go_ret
    exact ⟨ret_bool HD.out.symm, 0, rfl⟩
theorem ref_Eq (v v' : Value) (l l' : List UInt8) (w : World) (h : InY w v l) (h' : InY w v' l') :
    Calls Tryd.prog 19 #[v, v'] w fun e w' => e = .returned (.bool (decide (l = l'))) ∧ Below w.heap.size w w' := by
  refine (ref_EqN v v' l l' w h h').mono ?_
  rintro e w' ⟨rfl, n, rfl⟩
  exact ⟨rfl, below_drewN (Below.refl _ _) n⟩
#print axioms crc_Frame
#print axioms ref_Frame
#print axioms bytes_Equal
#print axioms ref_Eq
end Go.Proofs.YtahgkohnamnljaaDoor.Crc
