/- Contract of Lines of the reference. -/
import Derived.Test.YthiebggamfmjgaaDoorFieldJ
namespace Go.Proofs.YthiebggamfmjgaaDoor.Field
open Go.ChangeShapes Go.WideShapes Go.RowKit
set_option linter.unusedVariables false
set_option maxRecDepth 100000

theorem cutL_none {x : List UInt8} (hx : (10 : UInt8) ∉ x) : ∀ a : List UInt8, cutL a x = [] := by
  induction x with
  | nil => intro a; rfl
  | cons b r ih =>
    intro a
    simp only [List.mem_cons, not_or] at hx
    rw [cutL, if_neg (fun e => hx.1 e.symm), ih hx.2]
theorem lns_none {x : List UInt8} (hx : (10 : UInt8) ∉ x) : lns x = [] := cutL_none hx []
/-- The line that is being read: from f to k. -/
structure Cur (s : ByteArray) (f k : Nat) : Prop where
  le : f ≤ k
  ks : k ≤ s.size
  no : (10 : UInt8) ∉ ((ls s).drop f).take (k - f)
theorem Cur.start (s : ByteArray) : Cur s 0 0 := ⟨Nat.le_refl _, Nat.zero_le _, by simp⟩
theorem Cur.again {s : ByteArray} {k : Nat} (h : k ≤ s.size) : Cur s k k := ⟨Nat.le_refl _, h, by simp⟩
theorem cur_take {s : ByteArray} {f k : Nat} {b : UInt8} (h : f ≤ k) (hg : s.data.toList[k]? = some b) : ((ls s).drop f).take (k + 1 - f) = ((ls s).drop f).take (k - f) ++ [b] := by
  have hd : ((ls s).drop f)[k - f]? = some b := by rw [List.getElem?_drop, show f + (k - f) = k by omega]; exact hg
  rw [show k + 1 - f = k - f + 1 by omega, take_snoc_of hd]
theorem Cur.next {s : ByteArray} {f k : Nat} {b : UInt8} (h : Cur s f k) (hk : k < s.size) (hg : s.data.toList[k]? = some b) (hb : (b == 10) = false) : Cur s f (k + 1) := by
  refine ⟨by have := h.le; omega, by omega, ?_⟩
  rw [cur_take h.le hg, List.mem_append, not_or]
  refine ⟨h.no, ?_⟩
  rw [List.mem_singleton]; intro e; subst e; cases hb
theorem Cur.line {s : ByteArray} {f k : Nat} {b : UInt8} (h : Cur s f k) (hg : s.data.toList[k]? = some b) (hb : (b == 10) = true) : (ls s).drop f = ls (s.extract f k) ++ 10 :: (ls s).drop (k + 1) ∧ (10 : UInt8) ∉ ls (s.extract f k) := by
  have hd : ((ls s).drop f)[k - f]? = some b := by rw [List.getElem?_drop, show f + (k - f) = k by have := h.le; omega]; exact hg
  have e : ls (s.extract f k) = ((ls s).drop f).take (k - f) := ext_list s f k
  rw [e]
  refine ⟨?_, h.no⟩
  have h1 := List.take_append_drop (k - f) ((ls s).drop f)
  rw [drop_cons_of hd, List.drop_drop, show f + (k - f + 1) = k + 1 by have := h.le; omega] at h1
  rw [show b = 10 by simpa using hb] at h1
  exact h1.symm
theorem Cur.end_ {s : ByteArray} {f : Nat} (h : Cur s f s.size) : lns ((ls s).drop f) = [] := by
  have h1 := h.no
  rw [List.take_of_length_le (by rw [List.length_drop, ls_len]; omega)] at h1
  exact lns_none h1

set_option maxHeartbeats 6400000 in
theorem ref_Lines (s : ByteArray) (w : World) (hm : s.size ≤ 500000) : Calls Tryd.prog 20 #[.string s] w (LRes w (ls s)) := by
  have HLS := Lib.hid (ls_len s)
  obtain ⟨b, hb⟩ : ∃ b, endsB (ls s) = b := ⟨_, rfl⟩
  have HE := Lib.hid hb
  clear hb
  go_enter Tryd.func20, Tryd.ntmps20
  go_upto_region 1 with fail
  go_cut [19] (fun x wc => x = .bool (!b) ∧ w = wc)
  case first =>
    rcases Nat.eq_zero_or_pos s.size with h0 | h0
    · have hq : s.toList.isEmpty = true := by rw [emp_size, decide_eq_true h0]
      have e : Hid (b = true) := HE.out.symm.trans (endsB_empty h0)
      clear h0
      go_wp2_with fail
      go_meet
      case rel => exact ⟨by rw [e.out]; rfl, rfl⟩
    · have hq : s.toList.isEmpty = false := by rw [emp_size, decide_eq_false (by omega)]
      have hlast := ends_last h0
      rw [HE.out] at hlast
      have e1 : (s.size : Int) - 1 = ((s.size - 1 : Nat) : Int) := by omega
      have e2 : s.size - 1 < s.size := by omega
      have hb10 := byt_beq (b := s[s.size - 1]) 10 (n := 10) rfl
      rw [← hlast] at hb10
      have hb11 : (((s[s.size - 1].toNat : Nat) : Int) != 10) = !b := by rw [bne, hb10]
      clear h0 hlast hb10
      go_wp2_with fail
      go_meet
      case rel => exact ⟨by first | rfl | rw [hb11], rfl⟩
  case rest =>
    obtain ⟨rfl, rfl⟩ := hcut
    cases b with
    | false =>
      go_wp2_with fail
      go_ret2
      exact LRes.bad HE.out
    | true =>
      go_wp2_with fail
      go_loopw [4, 5, 6] (fun v fv iv wr => ∃ (f k : Nat) (acc : List (List (List UInt8))), fv = .int .i64 f ∧ iv = .int .i64 k ∧ Cur s f k ∧ LInv w wr v (ls s) acc ((ls s).drop f)) (fun _ _ iv _ => s.size - (intOf iv).toNat)
      case atStart => exact ⟨0, 0, [], rfl, rfl, Cur.start s, LInv.start w (ls s)⟩
      case round =>
        obtain ⟨f, k, acc, rfl, rfl, hcur, hinv⟩ := hrel
        have hks := hcur.ks
        have hfk := hcur.le
        have HCU := Lib.hid hcur
        have HI := Lib.hid hinv
        have hrs : acc.length ≤ 500000 := by have := hinv.n; rw [ls_len] at this; omega
        clear hcur hinv
        rcases Nat.lt_or_ge k s.size with hlt | hge
        · have HG := Lib.hid (str_get? s hlt)
          have hb10 := byt_beq (b := s[k]) 10 (n := 10) rfl
          cases h10 : s[k] == 10 with
          | false =>
            rw [h10] at hb10
            have hb11 : (((s[k].toNat : Nat) : Int) != 10) = true := by rw [bne, hb10]; rfl
            have HN := Lib.hid (HCU.out.next hlt HG.out h10)
            clear h10
            go_wp2_with fail
            go_roundw
            case rel =>
              first
                | exact ⟨f, k + 1, acc, rfl, by go_num, HN.out, HI.out⟩
                | (repeat apply Exists.intro
                   exact ⟨⟨f, k + 1, acc, rfl, by go_num, HN.out, HI.out⟩, rfl⟩)
            case measure => simp [intOf]; omega
          | true =>
            rw [h10] at hb10
            have hb11 : (((s[k].toNat : Nat) : Int) != 10) = false := by rw [bne, hb10]; rfl
            have HL := Lib.hid (HCU.out.line HG.out h10)
            have HI0 : Hid (LInv w wr _ (ls s) acc (ls (s.extract f k) ++ 10 :: (ls s).drop (k + 1))) := Lib.hid (HL.out.1 ▸ HI.out)
            have HN := Lib.hid (Cur.again (s := s) (k := k + 1) (by omega))
            obtain ⟨ln, hln⟩ : ∃ ln, s.extract f k = ln := ⟨_, rfl⟩
            have hlz : ln.size ≤ 500000 := by rw [← hln, ByteArray.size_extract]; omega
            rw [hln] at HL HI0
            have i1 : (0 : Int) ≤ (f : Int) := by omega
            have i2 : (f : Int) ≤ (k : Int) := by omega
            have i3 : (k : Int) ≤ (s.size : Int) := by omega
            clear h10
            rcases Nat.eq_zero_or_pos ln.size with l0 | l0
            · have hq2 : ln.toList.isEmpty = true := by rw [emp_size, decide_eq_true l0]
              have HN1 := Lib.hid (HI0.out.skip HL.out.2 (skp_empty l0))
              clear l0
              go_wp2_with fail
              go_roundw
              case rel =>
                first
                  | exact ⟨k + 1, k + 1, acc, by go_num, by go_num, HN.out, HN1.out⟩
                  | (repeat apply Exists.intro
                     exact ⟨⟨k + 1, k + 1, acc, by go_num, by go_num, HN.out, HN1.out⟩, rfl⟩)
              case measure => simp [intOf]; omega
            · have hq2 : ln.toList.isEmpty = false := by rw [emp_size, decide_eq_false (by omega)]
              have hb35 := byt_beq (b := ln[0]) 35 (n := 35) rfl
              have hsk := skp_first l0
              cases h35 : ln[0] == 35 with
              | true =>
                rw [h35] at hb35 hsk
                have HN1 := Lib.hid (HI0.out.skip HL.out.2 hsk)
                clear h35 hsk
                go_wp2_with fail
                go_roundw
                case rel =>
                  first
                    | exact ⟨k + 1, k + 1, acc, by go_num, by go_num, HN.out, HN1.out⟩
                    | (repeat apply Exists.intro
                       exact ⟨⟨k + 1, k + 1, acc, by go_num, by go_num, HN.out, HN1.out⟩, rfl⟩)
                case measure => simp [intOf]; omega
              | false =>
                rw [h35] at hb35 hsk
                have HSK := Lib.hid hsk
                have HSP := Lib.hid (ref_Split ln wr (by omega))
                clear h35 hsk
                go_wp2_with fail
                refine HSP.out.mono ?_
                rintro e1 w2 ⟨v1, rfl, ho1, hb2⟩
                obtain ⟨A1, c1, rfl, hc1, hc2, hs1, hA1, -⟩ := ho1.one
                have HI2 := Lib.hid (HI0.out.on hb2)
                have HS1 := Lib.hid hs1
                have HSEP := Lib.hid (HI0.out.sep fun a e => (hA1 a e).2.2.1)
                have HLT : Hid (∀ a, A1 = some a → a.block < w2.heap.size) := fun a e => (hA1 a e).2.2.2
                clear ho1 hs1 hA1 hb2
                by_cases he : splitE (ls ln) = 0
                · have HEE := Lib.hid he
                  rw [he]
                  have HBR : Hid (w.heap.size ≤ w2.heap.size) := HI2.out.bel.size
                  clear he
                  go_wp2_with (at_builtin; refine append_strs rfl _ _ rfl w.heap.size _ (GG acc) rfl (HI2.out.o.alloc _) w2.heap.size 1 A1 (BB (splitL (ls ln))) _ c1 rfl rfl (sl_one _ _ _ _ _ rfl) hc1 hc2 (HS1.out.on (below_alloc _ _)) HSEP.out (fun a e => Nat.lt_of_lt_of_le (HLT.out a e) (below_alloc _ _).size) (by rw [GG_len]; omega) (Nat.le_trans HBR.out (below_alloc _ _).size) ?_; intro v2 w3 hown3 hg3; refine Hid.out ?_)
                  refine Lib.hid ?_
                  have HN1 := Lib.hid (HI2.out.push HL.out.2 HSK.out HEE.out hown3 hg3)
                  clear hown3 hg3
                  go_wp2_with fail
                  go_roundw
                  case rel =>
                    first
                      | exact ⟨k + 1, k + 1, _, by go_num, by go_num, HN.out, HN1.out⟩
                      | (repeat apply Exists.intro
                         exact ⟨⟨k + 1, k + 1, _, by go_num, by go_num, HN.out, HN1.out⟩, rfl⟩)
                  case measure => simp [intOf]; omega
                · have hq3 : (splitE (ls ln) == 0) = false := beq_false_of_ne he
                  have HR := Lib.hid (HI2.out.stop HL.out.2 HSK.out he HE.out HI2.out.bel)
                  go_wp2_with fail
                  go_ret2
                  exact HR.out
        · obtain rfl : k = s.size := by omega
          have HD := Lib.hid (HI.out.done HCU.out.end_ HE.out)
          go_wp2_with fail
          go_ret2
          exact HD.out
#print axioms ref_Lines
end Go.Proofs.YthiebggamfmjgaaDoor.Field
