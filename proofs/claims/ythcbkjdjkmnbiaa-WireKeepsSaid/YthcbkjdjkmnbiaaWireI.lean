/- Contract of Ints of the reference; the examples of the chapter (awake). -/
import Derived.Test.YthcbkjdjkmnbiaaWireH
namespace Go.Proofs.Ythcbkjdjkmnbiaa.Wire
open Go.ChangeShapes Go.WideShapes Go.RowKit
set_option linter.unusedVariables false
set_option maxRecDepth 100000

theorem same_end {xs ys : List Int} (hl : xs.length = ys.length) (h : xs.take xs.length = ys.take xs.length) : xs = ys := by
  rw [List.take_length] at h; rw [h, List.take_of_length_le (by omega)]
theorem below_drewN {B : Nat} {a w : World} (h : Below B a w) (n : Nat) : Below B a (w.drewN n) := ⟨h.os, h.tape, h.output, h.size, h.block⟩
set_option maxHeartbeats 800000 in
theorem ref_Ints (v v' : Value) (xs ys : List Int) (w : World) (h : InI w v xs) (h' : InI w v' ys) (hm : xs.length ≤ 10000000) (hm2 : ys.length ≤ 10000000) :
    Calls Try.prog 24 #[v, v'] w fun e w' => e = .returned (.bool (decide (xs = ys))) ∧ Below w.heap.size w w' := by
  obtain ⟨A, c, rfl, _, _, hS⟩ := h
  obtain ⟨B, d, rfl, _, _, hT⟩ := h'
  have HS := Lib.hid hS
  have HT := Lib.hid hT
  clear hS hT
  by_cases hl : xs.length = ys.length
  · go_enter Try.func24, Try.ntmps24
    rw [← hl]
    have HL := Lib.hid hl
    clear hl hm2
    go_wp2_with fail
    go_loopw [5] (fun i wr => ∃ k : Nat, k ≤ xs.length ∧ i = .int .i64 k ∧ xs.take k = ys.take k ∧ Below w.heap.size w wr) (fun i _ => xs.length - (intOf i).toNat)
    case atStart => exact ⟨0, Nat.zero_le _, rfl, rfl, Below.refl _ _⟩
    case round =>
      obtain ⟨k, hk, rfl, hz, hbel⟩ := hrel
      have HK := Lib.hid hz
      have HB := Lib.hid hbel
      clear hz hbel
      rcases Nat.lt_or_ge k xs.length with hlt | hge
      · obtain ⟨z, hz⟩ : ∃ z, xs[k]? = some z := ⟨_, List.getElem?_eq_getElem hlt⟩
        obtain ⟨y, hy⟩ : ∃ y, ys[k]? = some y := ⟨_, List.getElem?_eq_getElem (by have := HL.out; omega)⟩
        obtain ⟨b, off, rfl, _, hcell⟩ := (HS.out.on HB.out) k z hz
        obtain ⟨b2, off2, rfl, _, hcell2⟩ := (HT.out.on HB.out) k y hy
        have HZ := Lib.hid hz
        have HY := Lib.hid hy
        clear hz hy
        by_cases h0 : z = y
        · subst h0
          have hne : (z != z) = false := by simp
          go_wp2_with fail
          go_quiet (fail)
          go_wp2_with fail
          go_roundw
          case rel => exact ⟨k + 1, by omega, by go_num, by rw [take_snoc_of HZ.out, take_snoc_of HY.out, HK.out], below_drewN HB.out _⟩
          case measure => simp [intOf]; omega
        · have hne : (z != y) = true := by simpa using h0
          have hv : ¬ xs = ys := by
            rintro rfl; have h1 := HZ.out; rw [HY.out] at h1; cases h1; exact h0 rfl
          have HV := Lib.hid hv
          clear hv h0
          go_wp2_with fail
          go_quiet (fail)
          go_wp2_with fail
          go_ret
          rw [decide_eq_false HV.out]; exact ⟨rfl, below_drewN HB.out _⟩
      · obtain rfl : k = xs.length := by omega
        have HE := Lib.hid (same_end HL.out HK.out)
        go_wp2_with fail
        go_ret
        rw [decide_eq_true HE.out]; exact ⟨rfl, HB.out⟩
  · have hne : ((xs.length : Int) != (ys.length : Int)) = true := by simp; omega
    have hv : ¬ xs = ys := fun h => hl (congrArg _ h)
    have HV := Lib.hid hv
    clear hv hl
    go_enter Try.func24, Try.ntmps24
    go_wp2_with fail
    go_ret
    rw [decide_eq_false HV.out]; exact ⟨rfl, Below.refl _ _⟩

/-! ### With named results -/
theorem take_is {l : List UInt8} {x : Int} {k : Nat} {e0 : Int} (h : takeI l = ⟨x, k, e0⟩) (v : Value) (w : World) (hv : InY w v l) (hl : l.length ≤ 1000000) :
    Calls Try.prog 18 #[v] w fun e w' => e = .returned (.tuple #[.int .i64 x, .int .i64 (k : Int), .int .i64 e0]) ∧ w = w' := by
  have := wire_TakeInt v l w hv hl
  rw [h] at this; exact this
theorem put_is {l r : List UInt8} {n : Int} (h : l ++ encI n = r) (v : Value) (w : World) (hn : isI n) (hv : InY w v l) (hl : l.length ≤ 100000) :
    Calls Try.prog 12 #[v, .int .i64 n] w (Puts w r) := h ▸ wire_PutInt v l n w hn hv hl
theorem same_is {l : List UInt8} (v v' : Value) (w : World) (h : InY w v l) (h' : InY w v' l) :
    Calls Try.prog 11 #[v, v'] w fun e w' => e = .returned (.bool true) ∧ w = w' := by
  have := ref_Same v v' l l w h h'
  rw [decide_eq_true rfl] at this; exact this

/-! ### awake -/
theorem code1 : codeN (-1) = 1 := by decide
theorem code64 : codeN 64 = 128 := by decide
theorem code2 : codeN 2 = 4 := by decide
theorem put1 : ([] : List UInt8) ++ encI (-1) = [1] := by unfold encI; rw [code1, enc_one (by omega)]; rfl
theorem put64 : ([5] : List UInt8) ++ encI 64 = [5, 128, 1] := by unfold encI; rw [code64, enc_more (by omega), enc_one (by omega)]; rfl
theorem putab : ([] : List UInt8) ++ encT (ls ⟨#[97, 98]⟩) = [4, 97, 98] := by
  unfold encT encI
  rw [show (ls ⟨#[97, 98]⟩) = [97, 98] from rfl, show codeN ((List.length [(97 : UInt8), 98] : Nat) : Int) = 4 from code2, enc_one (by omega)]; rfl
theorem aw_take1 (w : World) : Calls Try.prog 18 #[.slice (some ⟨w.heap.size, 0, none⟩) 3 3] (w.alloc (.cells #[.int .u8 216, .int .u8 4, .int .u8 9] 5)) fun e w' => e = .returned (.tuple #[.int .i64 300, .int .i64 2, .int .i64 0]) ∧ Below w.heap.size w w' := by
  refine (take_is (l := [216, 4, 9]) (x := 300) (k := 2) (e0 := 0) (by kernel_rfl) _ _ (in_lit w _ [216, 4, 9] (by decide)) (by decide)).mono ?_
  rintro e w1 ⟨rfl, rfl⟩
  exact ⟨rfl, below_alloc _ _⟩
theorem aw_take2 (w : World) : Calls Try.prog 18 #[.slice (some ⟨w.heap.size, 0, none⟩) 2 2] (w.alloc (.cells #[.int .u8 128, .int .u8 0] 5)) fun e w' => e = .returned (.tuple #[.int .i64 0, .int .i64 0, .int .i64 3]) ∧ Below w.heap.size w w' := by
  refine (take_is (l := [128, 0]) (x := 0) (k := 0) (e0 := 3) (by kernel_rfl) _ _ (in_lit w _ [128, 0] (by decide)) (by decide)).mono ?_
  rintro e w1 ⟨rfl, rfl⟩
  exact ⟨rfl, below_alloc _ _⟩
theorem aw_take3 (w : World) : Calls Try.prog 18 #[.slice (some ⟨w.heap.size, 0, none⟩) 1 1] (w.alloc (.cells #[.int .u8 128] 5)) fun e w' => e = .returned (.tuple #[.int .i64 0, .int .i64 0, .int .i64 4]) ∧ Below w.heap.size w w' := by
  refine (take_is (l := [128]) (x := 0) (k := 0) (e0 := 4) (by kernel_rfl) _ _ (in_lit w _ [128] (by decide)) (by decide)).mono ?_
  rintro e w1 ⟨rfl, rfl⟩
  exact ⟨rfl, below_alloc _ _⟩
theorem aw_same1 (w : World) (v : Value) (h : InY w v [1]) : Calls Try.prog 11 #[v, .slice (some ⟨w.heap.size, 0, none⟩) 1 1] (w.alloc (.cells #[.int .u8 1] 5)) fun e w' => e = .returned (.bool true) ∧ Below w.heap.size w w' := by
  refine (same_is v _ _ (h.on (below_alloc _ _)) (in_lit w _ [1] (by decide))).mono ?_
  rintro e w1 ⟨rfl, rfl⟩
  exact ⟨rfl, below_alloc _ _⟩
theorem aw_same5 (w : World) (v : Value) (h : InY w v [5, 128, 1]) : Calls Try.prog 11 #[v, .slice (some ⟨w.heap.size, 0, none⟩) 3 3] (w.alloc (.cells #[.int .u8 5, .int .u8 128, .int .u8 1] 5)) fun e w' => e = .returned (.bool true) ∧ Below w.heap.size w w' := by
  refine (same_is v _ _ (h.on (below_alloc _ _)) (in_lit w _ [5, 128, 1] (by decide))).mono ?_
  rintro e w1 ⟨rfl, rfl⟩
  exact ⟨rfl, below_alloc _ _⟩
theorem aw_same4 (w : World) (v : Value) (h : InY w v [4, 97, 98]) : Calls Try.prog 11 #[v, .slice (some ⟨w.heap.size, 0, none⟩) 3 3] (w.alloc (.cells #[.int .u8 4, .int .u8 97, .int .u8 98] 5)) fun e w' => e = .returned (.bool true) ∧ Below w.heap.size w w' := by
  refine (same_is v _ _ (h.on (below_alloc _ _)) (in_lit w _ [4, 97, 98] (by decide))).mono ?_
  rintro e w1 ⟨rfl, rfl⟩
  exact ⟨rfl, below_alloc _ _⟩
theorem aw_put1 (w : World) : Calls Try.prog 12 #[.slice none 0 0, .int .i64 (-1)] w fun e w' => ∃ v, e = .returned v ∧ InY w' v [1] ∧ Below w.heap.size w w' := by
  refine (put_is put1 _ _ ⟨by decide, by decide⟩ (InY.nil w) (by decide)).mono ?_
  rintro e w1 ⟨v, rfl, ho, hb⟩
  exact ⟨v, rfl, ho.inY, hb⟩
theorem aw_put5 (w : World) : Calls Try.prog 12 #[.slice (some ⟨w.heap.size, 0, none⟩) 1 1, .int .i64 64] (w.alloc (.cells #[.int .u8 5] 5)) fun e w' => ∃ v, e = .returned v ∧ InY w' v [5, 128, 1] ∧ Below w.heap.size w w' := by
  refine (put_is put64 _ _ ⟨by decide, by decide⟩ (in_lit w _ [5] (by decide)) (by decide)).mono ?_
  rintro e w1 ⟨v, rfl, ho, hb⟩
  exact ⟨v, rfl, ho.inY, bstep (below_alloc _ _) hb⟩
theorem aw_put4 (w : World) : Calls Try.prog 14 #[.slice none 0 0, .string ⟨#[97, 98]⟩] w fun e w' => ∃ v, e = .returned v ∧ InY w' v [4, 97, 98] ∧ Below w.heap.size w w' := by
  have := wire_PutText (.slice none 0 0) [] ⟨#[97, 98]⟩ w (InY.nil w) (by decide) (by decide)
  rw [putab] at this
  refine this.mono ?_
  rintro e w1 ⟨v, rfl, ho, hb⟩
  exact ⟨v, rfl, ho.inY, hb⟩
set_option maxHeartbeats 1600000 in
theorem awake_true (w : World) : Calls Try.prog 10 #[] w fun e w' => e = .returned (.bool true) ∧ Below w.heap.size w w' := by
  go_enter Try.func10, Try.ntmps10
  go_wp2_with fail
  refine (aw_take1 w).mono ?_
  rintro e w1 ⟨rfl, hb1⟩
  have HB1 := Lib.hid hb1
  clear hb1
  go_wp2_with fail
  refine (aw_take2 w1).mono ?_
  rintro e w2 ⟨rfl, hb2⟩
  have HB2 := Lib.hid (bstep HB1.out hb2)
  clear hb2 HB1
  go_wp2_with fail
  refine (aw_take3 w2).mono ?_
  rintro e w3 ⟨rfl, hb3⟩
  have HB3 := Lib.hid (bstep HB2.out hb3)
  clear hb3 HB2
  go_wp2_with fail
  refine (aw_put1 w3).mono ?_
  rintro e w4 ⟨v1, rfl, hv1, hb⟩
  have HV1 := Lib.hid hv1
  have HB4 := Lib.hid (bstep HB3.out hb)
  clear hb hv1 HB3
  go_wp2_with fail
  refine (aw_same1 w4 v1 HV1.out).mono ?_
  rintro e w5 ⟨rfl, hb⟩
  have HB5 := Lib.hid (bstep HB4.out hb)
  clear hb HB4
  go_wp2_with fail
  refine (aw_put5 w5).mono ?_
  rintro e w6 ⟨v5, rfl, hv5, hb⟩
  have HV5 := Lib.hid hv5
  have HB6 := Lib.hid (bstep HB5.out hb)
  clear hb hv5 HB5
  go_wp2_with fail
  refine (aw_same5 w6 v5 HV5.out).mono ?_
  rintro e w7 ⟨rfl, hb⟩
  have HB7 := Lib.hid (bstep HB6.out hb)
  clear hb HB6
  go_wp2_with fail
  refine (aw_put4 w7).mono ?_
  rintro e w8 ⟨v4, rfl, hv4, hb⟩
  have HV4 := Lib.hid hv4
  have HB8 := Lib.hid (bstep HB7.out hb)
  clear hb hv4 HB7
  go_wp2_with fail
  refine (aw_same4 w8 v4 HV4.out).mono ?_
  rintro e w9 ⟨rfl, hb⟩
  have HB9 := Lib.hid (bstep HB8.out hb)
  clear hb HB8
  go_wp2_with fail
  go_ret
  exact ⟨rfl, HB9.out⟩
#print axioms awake_true
#print axioms ref_Ints
end Go.Proofs.Ythcbkjdjkmnbiaa.Wire
