/- Several texts in one: ZumG, ZumH, Shelf, ZumC, ZumJ, ZumK. -/
import Derived.Test.YtagjimdplmimoaaGreatPk2
import Derived.Shelf.Small.Bits
import Derived.Shelf.Small.Wraps
import Derived.Shelf.Strconv.Itoa0
import Derived.Shelf.Bits.Mul64
import Derived.Ground.Names2Prog
import Derived.Shelf.Slices.SearchI
import Derived.Test.YtagjimdplmimoaaGreatProg
import Derived.Lib.ItoaNum
import Derived.Laws.Bits64b
import Derived.BigQuiet
import Derived.WalkSmall
import Derived.Deep.QuietTactic
/- Lists of integers: totals, and slices that hold them. No walk. -/
namespace Go.Proofs.YtagjimdplmimoaaGreat.Num
open Go.ChangeShapes Go.WideShapes Go.RowKit
set_option linter.unusedVariables false

def tot : List Int → Int
  | [] => 0
  | a :: l => a + tot l
theorem tot_snoc (l : List Int) (z : Int) : tot (l ++ [z]) = tot l + z := by
  induction l with
  | nil => simp [tot]
  | cons a l ih => simp only [List.cons_append, tot, ih]; omega
theorem tot_append (l m : List Int) : tot (l ++ m) = tot l + tot m := by
  induction l with
  | nil => simp [tot]
  | cons a l ih => simp only [List.cons_append, tot, ih]; omega
theorem tot_reverse (l : List Int) : tot l.reverse = tot l := by
  induction l with
  | nil => rfl
  | cons a l ih => rw [List.reverse_cons, tot_snoc, ih]; simp only [tot]; omega
def allIn (l : List Int) : Bool := l.all inB
theorem allIn_snoc (l : List Int) (z : Int) : allIn (l ++ [z]) = (allIn l && inB z) := by simp [allIn]
theorem allIn_reverse (l : List Int) : allIn l.reverse = allIn l := by simp [allIn]
theorem inB_iff {n : Int} (h : inB n = true) : -1125899906842624 ≤ n ∧ n ≤ 1125899906842624 := of_decide_eq_true h
theorem tot_bound (l : List Int) (h : allIn l = true) : -(1125899906842624 * (l.length : Int)) ≤ tot l ∧ tot l ≤ 1125899906842624 * (l.length : Int) := by
  induction l with
  | nil => simp [tot]
  | cons a l ih =>
    simp only [allIn, List.all_cons, Bool.and_eq_true] at h
    have h1 := inB_iff h.1
    have h2 := ih h.2
    simp only [tot, List.length_cons]
    omega
theorem take_snoc_of {l : List Int} {k : Nat} {z : Int} (h : l[k]? = some z) : l.take (k + 1) = l.take k ++ [z] := by
  rw [List.take_add_one, h]; rfl

/-- The sum, or the error. -/
def sumV (l : List Int) : Int := if 65536 < l.length then 0 else if allIn l = true then okV (tot l) else 0
def sumE (l : List Int) : Int := if 65536 < l.length then 8 else if allIn l = true then okE (tot l) else 1
theorem sumV_long {l : List Int} (h : 65536 < l.length) : sumV l = 0 := if_pos h
theorem sumE_long {l : List Int} (h : 65536 < l.length) : sumE l = 8 := if_pos h
theorem sumV_all {l : List Int} (h : l.length ≤ 65536) (ha : allIn l = true) : sumV l = okV (tot l) := by unfold sumV; rw [if_neg (by omega), if_pos ha]
theorem sumE_all {l : List Int} (h : l.length ≤ 65536) (ha : allIn l = true) : sumE l = okE (tot l) := by unfold sumE; rw [if_neg (by omega), if_pos ha]
theorem not_all {l : List Int} {k : Nat} {z : Int} (hz : l[k]? = some z) (hi : inB z = false) : ¬ allIn l = true := by
  intro h
  simp only [allIn, List.all_eq_true] at h
  have := h z (List.mem_of_getElem? hz)
  rw [hi] at this; cases this
theorem sumV_out {l : List Int} (h : l.length ≤ 65536) (ha : ¬ allIn l = true) : sumV l = 0 := by unfold sumV; rw [if_neg (by omega), if_neg ha]
theorem sumE_out {l : List Int} (h : l.length ≤ 65536) (ha : ¬ allIn l = true) : sumE l = 1 := by unfold sumE; rw [if_neg (by omega), if_neg ha]
theorem sumV_reverse (l : List Int) : sumV l.reverse = sumV l := by simp only [sumV, List.length_reverse, allIn_reverse, tot_reverse]
theorem sumE_reverse (l : List Int) : sumE l.reverse = sumE l := by simp only [sumE, List.length_reverse, allIn_reverse, tot_reverse]

/-- The parts of z that the reference adds up. -/
def th (z : Int) : Int := z.tdiv 33554432
def tl (z : Int) : Int := z.tmod 33554432
theorem th_tl (z : Int) : z = th z * 33554432 + tl z := by unfold th tl; have := Int.tdiv_mul_add_tmod z 33554432; omega
theorem tl_bd (z : Int) : -33554432 < tl z ∧ tl z < 33554432 := by
  unfold tl
  rcases Int.lt_or_le z 0 with h | h
  · have e : z = -(-z) := by omega
    rw [e, Int.neg_tmod, Int.tmod_eq_emod_of_nonneg (by omega)]; omega
  · rw [Int.tmod_eq_emod_of_nonneg h]; omega
theorem th_bd {z : Int} (h1 : -1125899906842624 ≤ z) (h2 : z ≤ 1125899906842624) : -33554432 ≤ th z ∧ th z ≤ 33554432 := by
  have a := th_tl z; have b := tl_bd z; omega
theorem tot_th (l : List Int) : tot l = tot (l.map th) * 33554432 + tot (l.map tl) := by
  induction l with
  | nil => simp [tot]
  | cons a l ih => have := th_tl a; simp only [List.map_cons, tot]; omega
theorem tot_tl_bd (l : List Int) : -(33554432 * (l.length : Int)) ≤ tot (l.map tl) ∧ tot (l.map tl) ≤ 33554432 * (l.length : Int) := by
  induction l with
  | nil => simp [tot]
  | cons a l ih => have := tl_bd a; simp only [List.map_cons, tot, List.length_cons]; omega
theorem tot_th_bd (l : List Int) (h : allIn l = true) : -(33554432 * (l.length : Int)) ≤ tot (l.map th) ∧ tot (l.map th) ≤ 33554432 * (l.length : Int) := by
  induction l with
  | nil => simp [tot]
  | cons a l ih =>
    simp only [allIn, List.all_cons, Bool.and_eq_true] at h
    have h1 := inB_iff h.1
    have h2 := ih h.2
    have h3 := th_bd h1.1 h1.2
    simp only [List.map_cons, tot, List.length_cons]
    omega

/-- The slice at A holds the integers zs, and lies below block B. -/
def Holds (w : World) (B : Nat) (A : Option Addr) (zs : List Int) : Prop :=
  ∀ k z, zs[k]? = some z → ∃ b off, A = some ⟨b, off, none⟩ ∧ b < B ∧ w.cell? ⟨b, off + k, none⟩ = some (.int .i64 z)
theorem Holds.below {w w' : World} {B : Nat} {A : Option Addr} {zs : List Int} (h : Holds w B A zs) (hb : Below B w w') : Holds w' B A zs := by
  intro k z hz
  obtain ⟨b, off, hA, hlt, hc⟩ := h k z hz
  exact ⟨b, off, hA, hlt, (hb.cell (p := ⟨b, off + k, none⟩) hlt).trans hc⟩
theorem Holds.more {w : World} {B B' : Nat} {A : Option Addr} {zs : List Int} (h : Holds w B A zs) (hB : B ≤ B') : Holds w B' A zs := by
  intro k z hz
  obtain ⟨b, off, hA, hlt, hc⟩ := h k z hz
  exact ⟨b, off, hA, by omega, hc⟩

/-- A block of two cells. -/
def Two (w : World) (g : Nat) (t : TypeId) (x y : Value) : Prop := w.heap[g]? = some (.cells #[x, y] t (0, 0))
theorem Two.cell0 {w : World} {g : Nat} {t : TypeId} {x y : Value} (h : Two w g t x y) : w.cell? ⟨g, 0, none⟩ = some x := cell_of_row w g 0 #[x, y] t (0, 0) h
theorem Two.cell1 {w : World} {g : Nat} {t : TypeId} {x y : Value} (h : Two w g t x y) : w.cell? ⟨g, 1, none⟩ = some y := cell_of_row w g 1 #[x, y] t (0, 0) h
theorem Two.frozen {w : World} {g : Nat} {t : TypeId} {x y : Value} (h : Two w g t x y) (i : Nat) : w.frozen? ⟨g, i, none⟩ = false := by
  unfold Two at h; simp [World.frozen?, h]
theorem Two.new (w : World) (t : TypeId) (x y : Value) : Two (w.alloc (.cells #[x, y] t)) w.heap.size t x y := heap_alloc_new w _
theorem Two.below {w w' : World} {g B : Nat} {t : TypeId} {x y : Value} (h : Two w g t x y) (hb : Below B w w') (hg : g < B) : Two w' g t x y := (hb.block g hg).trans h
theorem Two.store {w : World} {g : Nat} {t : TypeId} {x y : Value} (h : Two w g t x y) (x' y' : Value) : Two ((w.setCell ⟨g, 0, none⟩ x').setCell ⟨g, 1, none⟩ y') g t x' y' := by
  unfold Two at h ⊢
  simp [World.setCell, Array.getElem?_modify, h]
end Go.Proofs.YtagjimdplmimoaaGreat.Num
/- Contracts of num.Sum and of Sum of the reference. -/
namespace Go.Proofs.YtagjimdplmimoaaGreat.Num
open Go.ChangeShapes Go.WideShapes Go.RowKit
set_option linter.unusedVariables false

set_option maxHeartbeats 400000 in
theorem num_sum (zs : List Int) (A : Option Addr) (c : Nat) (w : World) (hS : Holds w w.heap.size A zs) (hlen : zs.length ≤ 9223372036854775807) :
    Calls Tryz.prog 37 #[.slice A zs.length c] w fun e w' => e = .returned (.tuple #[.int .i64 (sumV zs), .int .i64 (sumE zs)]) ∧ Below w.heap.size w w' := by
  by_cases hl : 65536 < zs.length
  · have hl' : 65536 < (zs.length : Int) := by omega
    go_enter Tryz.func37, Tryz.ntmps37
    go_wp2
    go_ret2
    exact ⟨ret_two (sumV_long hl).symm (sumE_long hl).symm, Below.refl _ _⟩
  · have hl' : (zs.length : Int) ≤ 65536 := by omega
    have hl2 : zs.length ≤ 65536 := by omega
    have hd : decide (65536 < (zs.length : Int)) = false := decide_eq_false (by omega)
    have HS := Lib.hid hS
    clear hS hl
    go_enter Tryz.func37, Tryz.ntmps37
    go_wp2_with fail
    go_loopw [6, 12] (fun _ i wr => ∃ k : Nat, k ≤ zs.length ∧ i = .int .i64 k ∧ allIn (zs.take k) = true ∧ Two wr w.heap.size 93 (.int .u64 (hiW (tot (zs.take k)))) (.int .u64 (loW (tot (zs.take k)))) ∧ Below w.heap.size w wr ∧ w.heap.size < wr.heap.size) (fun _ i _ => zs.length - (intOf i).toNat)
    case atStart => exact ⟨0, Nat.zero_le _, rfl, rfl, Two.new _ _ _ _, (Below.refl _ _).alloc (Nat.le_refl _) _, by simp⟩
    case round =>
      obtain ⟨k, hk, rfl, ha, hT, hbel, hsz⟩ := hrel
      have hbd := tot_bound _ ha
      have hll : (zs.take k).length ≤ k := List.length_take_le _ _
      have b1 : -85070591730234615865843651857942052864 ≤ tot (zs.take k) := by omega
      have b2 : tot (zs.take k) ≤ 85070591730234615865843651857942052864 := by omega
      have HA := Lib.hid ha
      have HT := Lib.hid hT
      have HB := Lib.hid hbel
      have hc0 := hT.cell0
      have hc1 := hT.cell1
      have hf0 := hT.frozen 0
      have hf1 := hT.frozen 1
      clear ha hT hbel hbd hll
      rcases Nat.lt_or_ge k zs.length with hlt | hge
      · obtain ⟨z, hz⟩ : ∃ z, zs[k]? = some z := ⟨_, List.getElem?_eq_getElem hlt⟩
        obtain ⟨b, off, rfl, hb, hcell⟩ := (HS.out.below HB.out) k z hz
        have HZ := Lib.hid hz
        clear hz
        rcases inB_cases z with ⟨hi, z1, z2⟩ | ⟨hi, nz⟩
        · go_wp2_with fail
          refine (num_in _ _).mono ?_
          rintro e w' ⟨rfl, rfl⟩
          go_wp2_with fail
          refine (num_plus _ _ _ z1 z2).mono ?_
          rintro e w1 ⟨rfl, hb1⟩
          have hT1 := HT.out.below hb1 hsz
          have hs1 : w.heap.size < w1.heap.size := Nat.lt_of_lt_of_le hsz hb1.size
          have g0 := hT1.cell0
          have g1 := hT1.cell1
          have k0 := hT1.frozen 0
          have k1 := hT1.frozen 1
          have HT1 := Lib.hid hT1
          have HB1 := Lib.hid hb1
          clear hT1 hb1 hc0 hc1 hf0 hf1
          go_wp2_with fail
          go_roundw
          case rel =>
            have e := take_snoc_of HZ.out
            have et := tot_snoc (zs.take k) z
            refine ⟨k + 1, by omega, by go_num, by rw [e, allIn_snoc, HA.out, hi]; rfl, by rw [e, et]; exact HT1.out.store _ _, ?_, by simp; exact hs1⟩
            exact ((HB.out.trans (HB1.out.mono (by omega))).setCell (Nat.le_refl _) _).setCell (Nat.le_refl _) _
          case measure => simp [intOf]; omega
        · have NZ := Lib.hid nz
          clear nz
          go_wp2_with fail
          refine (num_in _ _).mono ?_
          rintro e w' ⟨rfl, rfl⟩
          go_wp2_with fail
          go_ret2
          have hno := not_all HZ.out hi
          exact ⟨ret_two (sumV_out hl2 hno).symm (sumE_out hl2 hno).symm, HB.out⟩
      · obtain rfl : k = zs.length := by omega
        have hall : allIn zs = true := by have := HA.out; rwa [List.take_length] at this
        have HALL := Lib.hid hall
        clear hall
        have hT' := HT.out
        rw [List.take_length] at hT' b1 b2
        have hd0 := hT'.cell0
        have hd1 := hT'.cell1
        clear hc0 hc1 hT'
        go_wp2_with fail
        refine (num_narrow _ _ b1 b2).mono ?_
        rintro e w1 ⟨rfl, hb1⟩
        go_wp2_with fail
        go_ret2
        exact ⟨ret_two (sumV_all hl2 HALL.out).symm (sumE_all hl2 HALL.out).symm, HB.out.trans (hb1.mono (by omega))⟩
end Go.Proofs.YtagjimdplmimoaaGreat.Num
/-
  DERIVED: THE SHELF's CONTRACTS AT THIS DUMP, IN PLAIN WORDS (tools/lay-plain.mjs out of 'TryzShelf.lean', which tools/lay-shelf.mjs wrote): THE SAME DECLARATIONS UNDER THE SAME NAMES: 'import', 'namespace', 'open', 'def', 'theorem' AND NOTHING ELSE: no command of the shelf's: FOR A HAND-IN. Each laying: the table of numbers ('.._ren') and one theorem, a field a fact of the dump's own or the kernel's comparison; each contract: ONE APPLICATION.
-/
namespace Go.Proofs
open Go.Shelf
def Tryz.lays134_ren : Go.Shelf.Ren := ⟨fun | 134 => 100 | 129 => 110 | n => n, fun | 53 => 91 | 3 => 3 | 4 => 4 | 46 => 125 | 5 => 5 | 9 => 9 | n => n, fun | n => n⟩
theorem Tryz.lays134 : Go.Proofs.Lays.n134 Tryz.prog Tryz.lays134_ren := {
  mixed := by kernel_rfl
  f129 := Tryz.func110.trans (congrArg some (by kernel_rfl))
  f134 := Tryz.func100.trans (congrArg some (by kernel_rfl))
  t3 := Tryz.underlying3
  a3 := Tryz.isAgg3
  z3 := Tryz.sizeOf3
  v3 := Tryz.zeroValue3
  t4 := Tryz.underlying4
  a4 := Tryz.isAgg4
  z4 := Tryz.sizeOf4
  v4 := Tryz.zeroValue4
  t5 := Tryz.underlying5
  a5 := Tryz.isAgg5
  z5 := Tryz.sizeOf5
  v5 := Tryz.zeroValue5
  t9 := Tryz.underlying9
  a9 := Tryz.isAgg9
  z9 := Tryz.sizeOf9
  v9 := Tryz.zeroValue9
  t46 := Tryz.underlying125
  a46 := Tryz.isAgg125
  z46 := Tryz.sizeOf125
  v46 := Tryz.zeroValue125
  t53 := Tryz.underlying91
  a53 := Tryz.isAgg91
  z53 := Tryz.sizeOf91
  v53 := Tryz.zeroValue91 }
/-- bits.LeadingZeros64: "LeadingZeros64 returns the number of leading zero bits in x; the result is 64 for x == 0.": IT RETURNS '64 - Lib.bitLen x'; the world is as it was. ITS CALLEE bits.Len64 IS MET BY ITS OWN CONTRACT OFF THE SHELF (lay that first): entered in place it sends the kernel out of memory. (LAID: no walk: one application.) -/
theorem Tryz.bits_LeadingZeros64 (x : Int) (w : World) (h0 : 0 ≤ x) (h1 : x ≤ 18446744073709551615) :
    Calls Tryz.prog 100 #[.int .u64 x] w fun e w' => e = .returned (.int .i64 (64 - (Lib.bitLen x.toNat : Int))) ∧ w' = w := Any.bits_LeadingZeros64 Tryz.lays134 x w h0 h1
def Tryz.lays215_ren : Go.Shelf.Ren := ⟨fun | 215 => 91 | n => n, fun | 3 => 3 | 4 => 4 | n => n, fun | n => n⟩
theorem Tryz.lays215 : Go.Proofs.Lays.n215 Tryz.prog Tryz.lays215_ren := {
  mixed := by kernel_rfl
  f215 := Tryz.func91.trans (congrArg some (by kernel_rfl))
  t3 := Tryz.underlying3
  a3 := Tryz.isAgg3
  z3 := Tryz.sizeOf3
  v3 := Tryz.zeroValue3
  t4 := Tryz.underlying4
  a4 := Tryz.isAgg4
  z4 := Tryz.sizeOf4
  v4 := Tryz.zeroValue4 }
open Go.RowKit in
/-- cmp.isNaN at int: 'x != x': false. (LAID: no walk: one application.) -/
theorem Tryz.cmp_isNaN_int (x : Int) (w : World) :
    Calls Tryz.prog 91 #[.int .i64 x] w fun e w' => e = .returned (.bool false) ∧ w' = w := Any.cmp_isNaN_int Tryz.lays215 x w
def Tryz.lays122_ren : Go.Shelf.Ren := ⟨fun | 122 => 67 | 215 => 91 | n => n, fun | 3 => 3 | 4 => 4 | n => n, fun | n => n⟩
theorem Tryz.lays122 : Go.Proofs.Lays.n122 Tryz.prog Tryz.lays122_ren := {
  mixed := by kernel_rfl
  f122 := Tryz.func67.trans (congrArg some (by kernel_rfl))
  f215 := Tryz.func91.trans (congrArg some (by kernel_rfl))
  t3 := Tryz.underlying3
  a3 := Tryz.isAgg3
  z3 := Tryz.sizeOf3
  v3 := Tryz.zeroValue3
  t4 := Tryz.underlying4
  a4 := Tryz.isAgg4
  z4 := Tryz.sizeOf4
  v4 := Tryz.zeroValue4 }
open Go.RowKit in
/-- cmp.Compare at int: "Compare returns -1 if x is less than y, 0 if x equals y, +1 if x is greater than y.": IT RETURNS 'Lib.compareInt x y'; the world is as it was. (LAID: no walk: one application.) -/
theorem Tryz.cmp_Compare_int (x y : Int) (w : World) :
    Calls Tryz.prog 67 #[.int .i64 x, .int .i64 y] w fun e w' => e = .returned (.int .i64 (Lib.compareInt x y)) ∧ w' = w := Any.cmp_Compare_int Tryz.lays122 x y w
def Tryz.lays129_ren : Go.Shelf.Ren := ⟨fun | 129 => 110 | n => n, fun | 53 => 91 | 3 => 3 | 4 => 4 | 46 => 125 | 5 => 5 | 9 => 9 | n => n, fun | n => n⟩
theorem Tryz.lays129 : Go.Proofs.Lays.n129 Tryz.prog Tryz.lays129_ren := {
  mixed := by kernel_rfl
  f129 := Tryz.func110.trans (congrArg some (by kernel_rfl))
  t3 := Tryz.underlying3
  a3 := Tryz.isAgg3
  z3 := Tryz.sizeOf3
  v3 := Tryz.zeroValue3
  t4 := Tryz.underlying4
  a4 := Tryz.isAgg4
  z4 := Tryz.sizeOf4
  v4 := Tryz.zeroValue4
  t5 := Tryz.underlying5
  a5 := Tryz.isAgg5
  z5 := Tryz.sizeOf5
  v5 := Tryz.zeroValue5
  t9 := Tryz.underlying9
  a9 := Tryz.isAgg9
  z9 := Tryz.sizeOf9
  v9 := Tryz.zeroValue9
  t46 := Tryz.underlying125
  a46 := Tryz.isAgg125
  z46 := Tryz.sizeOf125
  v46 := Tryz.zeroValue125
  t53 := Tryz.underlying91
  a53 := Tryz.isAgg91
  z53 := Tryz.sizeOf91
  v53 := Tryz.zeroValue91 }
/-- bits.Len64: "Len64 returns the minimum number of bits required to represent x; the result is 0 for x == 0.": IT RETURNS 'Lib.bitLen x'; the world is as it was. ('h0', 'h1': x is a uint64.) (LAID: no walk: one application.) -/
theorem Tryz.bits_Len64 (x : Int) (w : World) (h0 : 0 ≤ x) (h1 : x ≤ 18446744073709551615) :
    Calls Tryz.prog 110 #[.int .u64 x] w fun e w' => e = .returned (.int .i64 (Lib.bitLen x.toNat)) ∧ w' = w := Any.bits_Len64 Tryz.lays129 x w h0 h1
def Tryz.lays264_ren : Go.Shelf.Ren := ⟨fun | 264 => 99 | n => n, fun | 53 => 91 | 46 => 125 | n => n, fun | n => n⟩
theorem Tryz.lays264 : Go.Proofs.Lays.n264 Tryz.prog Tryz.lays264_ren := {
  mixed := by kernel_rfl
  f264 := Tryz.func99.trans (congrArg some (by kernel_rfl))
  t46 := Tryz.underlying125
  a46 := Tryz.isAgg125
  z46 := Tryz.sizeOf125
  v46 := Tryz.zeroValue125
  t53 := Tryz.underlying91
  a53 := Tryz.isAgg91
  z53 := Tryz.sizeOf91
  v53 := Tryz.zeroValue91 }
open Go.RowKit Go.Lib in
theorem Tryz.bits_Mul64 (x y : Nat) (hx : x < 18446744073709551616) (hy : y < 18446744073709551616) (w : World) :
    Calls Tryz.prog 99 #[.int .u64 x, .int .u64 y] w fun e w' => e = .returned (.tuple #[.int .u64 ((x * y / 18446744073709551616 : Nat) : Int), .int .u64 ((x * y % 18446744073709551616 : Nat) : Int)]) ∧ w' = w := Any.bits_Mul64 Tryz.lays264 x y hx hy w
def Tryz.laysNm237_ren : Go.Shelf.Ren := ⟨fun | 37 => 91 | n => n, fun | 3 => 3 | 4 => 4 | n => n, fun | n => n⟩
theorem Tryz.laysNm237 : Go.Proofs.Lays2.n37 Tryz.prog Tryz.laysNm237_ren := {
  mixed := by kernel_rfl
  f37 := Tryz.func91.trans (congrArg some (by kernel_rfl))
  t3 := Tryz.underlying3
  a3 := Tryz.isAgg3
  z3 := Tryz.sizeOf3
  v3 := Tryz.zeroValue3
  t4 := Tryz.underlying4
  a4 := Tryz.isAgg4
  z4 := Tryz.sizeOf4
  v4 := Tryz.zeroValue4 }
open Go.RowKit Go.Lib in
/-- cmp.isNaN[int]: 'x != x': false. (LAID: no walk: one application.) -/
theorem Tryz.cmp_isNaN_int2 (x : Int) (w : World) :
    Calls Tryz.prog 91 #[.int .i64 x] w fun e w' => e = .returned (.bool false) ∧ w' = w := Any.cmp_isNaN_int2 Tryz.laysNm237 x w
end Go.Proofs
/- Contracts of num.product, num.Mul, and of Mul of the reference. -/
namespace Go.Proofs.YtagjimdplmimoaaGreat.Num
open Go.ChangeShapes Go.WideShapes Go.RowKit
set_option linter.unusedVariables false

/-- The two words of the product of the magnitudes. -/
def mulHi (a b : Int) : Nat := a.natAbs * b.natAbs / 18446744073709551616
def mulLo (a b : Int) : Nat := a.natAbs * b.natAbs % 18446744073709551616
theorem mulLo_lt (a b : Int) : mulLo a b < 18446744073709551616 := Nat.mod_lt _ (by omega)
theorem mulLo_of {a b : Int} (h : mulHi a b = 0) : mulLo a b = (a * b).natAbs := by
  unfold mulHi at h; unfold mulLo; rw [Int.natAbs_mul]; omega
theorem mulHi_big {a b : Int} (h : mulHi a b ≠ 0) : 18446744073709551616 ≤ (a * b).natAbs := by
  unfold mulHi at h; rw [Int.natAbs_mul]; omega
theorem prod_pos {a b : Int} (h : (a < 0 ∧ b < 0) ∨ (0 ≤ a ∧ 0 ≤ b)) : 0 ≤ a * b := by
  rcases h with ⟨h1, h2⟩ | ⟨h1, h2⟩
  · exact Int.mul_nonneg_of_nonpos_of_nonpos (by omega) (by omega)
  · exact Int.mul_nonneg h1 h2
theorem prod_neg {a b : Int} (h : (a < 0 ∧ 0 ≤ b) ∨ (0 ≤ a ∧ b < 0)) : a * b ≤ 0 := by
  rcases h with ⟨h1, h2⟩ | ⟨h1, h2⟩
  · exact Int.mul_nonpos_of_nonpos_of_nonneg (by omega) h2
  · exact Int.mul_nonpos_of_nonneg_of_nonpos h1 (by omega)
theorem mul_same {a b : Int} (h : mulHi a b = 0) (hs : (a < 0 ∧ b < 0) ∨ (0 ≤ a ∧ 0 ≤ b)) : (mulLo a b : Int) = a * b := by
  have := prod_pos hs; rw [mulLo_of h]; omega
theorem mul_diff {a b : Int} (h : mulHi a b = 0) (hs : (a < 0 ∧ 0 ≤ b) ∨ (0 ≤ a ∧ b < 0)) : -(mulLo a b : Int) = a * b := by
  have := prod_neg hs; rw [mulLo_of h]; omega

theorem neg_cases (a : Int) : (a < 0 ∧ decide (a < 0) = true) ∨ (0 ≤ a ∧ decide (a < 0) = false) := by
  by_cases h : a < 0
  · exact Or.inl ⟨h, decide_eq_true h⟩
  · exact Or.inr ⟨by omega, decide_eq_false h⟩

theorem num_product (a b : Int) (w : World) (a1 : -1125899906842624 ≤ a) (a2 : a ≤ 1125899906842624) (b1 : -1125899906842624 ≤ b) (b2 : b ≤ 1125899906842624) :
    Calls Tryz.prog 85 #[.int .i64 a, .int .i64 b] w fun e w' => e = .returned (.agg #[.int .u64 (mulHi a b : Int), .int .u64 (mulLo a b : Int)]) ∧ Below w.heap.size w w' := by
  go_enter Tryz.func85, Tryz.ntmps85
  go_wp2_with fail
  refine (num_magnitude a _ a1 a2).mono ?_
  rintro e w' ⟨rfl, rfl⟩
  go_wp2_with fail
  refine (num_magnitude b _ b1 b2).mono ?_
  rintro e w' ⟨rfl, rfl⟩
  go_wp2_with fail
  refine (Tryz.bits_Mul64 _ _ (by omega) (by omega) _).mono ?_
  rintro e w' ⟨rfl, rfl⟩
  rw [← mulHi, ← mulLo]
  go_wp2_with fail
  exact bodyPost_ret (v := .agg #[.int .u64 (mulHi a b : Int), .int .u64 (mulLo a b : Int)]) (by simp [results, Tryz.results85, go_sem]) rfl ⟨rfl, ((Below.refl _ _).alloc (Nat.le_refl _) _).alloc (by simp) _⟩

/-- The reference's test: |b| > most / |a| says that the product is out of range. -/
theorem ref_mul_big {a b : Int} (ha : a ≠ 0) (h : 1125899906842624 / (a.natAbs : Int) < b.natAbs) : 1125899906842624 < (a * b).natAbs := by
  have h' : 1125899906842624 / a.natAbs < b.natAbs := Int.ofNat_lt.1 (by rw [Int.natCast_ediv]; exact h)
  rw [Int.natAbs_mul, Nat.mul_comm]
  exact (Nat.div_lt_iff_lt_mul (by omega)).1 h'
theorem ref_mul_small {a b : Int} (ha : a ≠ 0) (h : (b.natAbs : Int) ≤ 1125899906842624 / (a.natAbs : Int)) : (a * b).natAbs ≤ 1125899906842624 := by
  have h' : b.natAbs ≤ 1125899906842624 / a.natAbs := Int.ofNat_le.1 (by rw [Int.natCast_ediv]; exact h)
  rw [Int.natAbs_mul, Nat.mul_comm]
  exact (Nat.le_div_iff_mul_le (by omega)).1 h'

end Go.Proofs.YtagjimdplmimoaaGreat.Num
/- Division of two words by one, digit by digit: the arithmetic of math/bits.Div64. No walk. -/
namespace Go.Proofs.YtagjimdplmimoaaGreat.Num
open Go.ChangeShapes Go.WideShapes Go.RowKit
set_option linter.unusedVariables false

/-- A guess q of the digit Q, with its rest r. -/
structure KAt (u v1 Q q r : Nat) : Prop where
  sum : q * v1 + r = u
  small : r < 4294967296
  high : Q ≤ q

section
variable {u v v1 v0 d Q q r : Nat}
theorem k_lt (hu : u < v) (hd : d < 4294967296) (hQ : Q = (u * 4294967296 + d) / v) : Q < 4294967296 := by
  subst hQ
  rw [Nat.div_lt_iff_lt_mul (by omega)]
  omega
theorem k_start (hv : v = v1 * 4294967296 + v0) (h1 : 1 ≤ v1) (h2 : v1 < 4294967296) (hd : d < 4294967296) (hQ : Q = (u * 4294967296 + d) / v) : KAt u v1 Q (u / v1) (u % v1) := by
  refine ⟨Nat.div_add_mod' u v1, ?_, ?_⟩
  · have := Nat.mod_lt u (show v1 > 0 by omega); omega
  · rw [Nat.le_div_iff_mul_le (by omega)]
    have h3 : Q * v ≤ u * 4294967296 + d := by subst hQ; exact Nat.div_mul_le_self _ _
    rw [hv, Nat.mul_add, ← Nat.mul_assoc] at h3
    omega
theorem k_body (h : KAt u v1 Q q r) (hv : v = v1 * 4294967296 + v0) (h1 : 1 ≤ v1) (hu : u < v) (hd : d < 4294967296) (hQ : Q = (u * 4294967296 + d) / v) (ht : 4294967296 ≤ q ∨ 4294967296 * r + d < q * v0) : Q + 1 ≤ q := by
  rcases ht with ht | ht
  · have := k_lt hu hd hQ; omega
  · have hs := h.sum
    have e : q * v = q * v1 * 4294967296 + q * v0 := by rw [hv, Nat.mul_add, ← Nat.mul_assoc]
    have : Q < q := by
      subst hQ
      rw [Nat.div_lt_iff_lt_mul (by omega), e]
      omega
    omega
theorem k_exit (h : KAt u v1 Q q r) (hv : v = v1 * 4294967296 + v0) (h1 : 1 ≤ v1) (hQ : Q = (u * 4294967296 + d) / v) (ht : q * v0 ≤ 4294967296 * r + d) : q = Q := by
  have hs := h.sum
  have hh := h.high
  have e : q * v = q * v1 * 4294967296 + q * v0 := by rw [hv, Nat.mul_add, ← Nat.mul_assoc]
  have : q ≤ Q := by
    subst hQ
    rw [Nat.le_div_iff_mul_le (by omega), e]
    omega
  omega
theorem k_break (h : KAt u v1 Q (q + 1) r) (hv : v = v1 * 4294967296 + v0) (h1 : 1 ≤ v1) (h0 : v0 < 4294967296) (hu : u < v) (hQ : Q = (u * 4294967296 + d) / v) (hq : Q ≤ q) (ht : 4294967296 ≤ r + v1) : q = Q := by
  have hs := h.sum
  rw [Nat.add_mul, Nat.one_mul] at hs
  have hlt : q < 4294967296 := by
    have : q * v1 < 4294967296 * v1 := by omega
    exact Nat.lt_of_mul_lt_mul_right this
  have hp : q * v0 ≤ 4294967296 * 4294967296 := Nat.mul_le_mul (by omega) (by omega)
  have e : q * v = q * v1 * 4294967296 + q * v0 := by rw [hv, Nat.mul_add, ← Nat.mul_assoc]
  have : q ≤ Q := by
    subst hQ
    rw [Nat.le_div_iff_mul_le (by omega), e]
    omega
  omega
theorem k_next (h : KAt u v1 Q (q + 1) r) (hq : Q ≤ q) (ht : r + v1 < 4294967296) : KAt u v1 Q q (r + v1) := by
  have hs := h.sum
  rw [Nat.add_mul, Nat.one_mul] at hs
  exact ⟨by omega, ht, hq⟩
end

/-- The count of leading zeros makes the divisor fill its word. -/
theorem norm_of {y : Nat} (h1 : 1 ≤ y) (h2 : y < 18446744073709551616) : ∃ s : Nat, s ≤ 63 ∧ (64 - (Lib.bitLen y : Int)) = s ∧ 9223372036854775808 ≤ y * 2 ^ s ∧ y * 2 ^ s < 18446744073709551616 := by
  obtain ⟨b1, b2, b3⟩ := Lib.bitLenAux_bounds 64 y h2 (by omega)
  have b4 : Lib.bitLen y ≤ 64 := Lib.bitLen_le y 64 (by omega) h2
  have e : Lib.bitLen y = Lib.bitLenAux 64 y := rfl
  rw [← e] at b1 b2 b3
  refine ⟨64 - Lib.bitLen y, by omega, by omega, ?_, ?_⟩
  · have : 2 ^ (Lib.bitLen y - 1) * 2 ^ (64 - Lib.bitLen y) = 2 ^ 63 := by rw [← Nat.pow_add]; congr 1; omega
    have h3 : 2 ^ (Lib.bitLen y - 1) * 2 ^ (64 - Lib.bitLen y) ≤ y * 2 ^ (64 - Lib.bitLen y) := Nat.mul_le_mul_right _ b2
    omega
  · have : 2 ^ (Lib.bitLen y) * 2 ^ (64 - Lib.bitLen y) = 2 ^ 64 := by rw [← Nat.pow_add]; congr 1; omega
    have h3 : y * 2 ^ (64 - Lib.bitLen y) < 2 ^ (Lib.bitLen y) * 2 ^ (64 - Lib.bitLen y) := Nat.mul_lt_mul_of_pos_right b3 (Nat.two_pow_pos _)
    omega

/-- The numbers of one division. -/
structure Div2 (hi lo y s Y v1 v0 u l d1 d0 Q1 R Q0 R0 : Nat) : Prop where
  hY : Y = y * 2 ^ s
  Ylo : 9223372036854775808 ≤ Y
  Yhi : Y < 18446744073709551616
  hv : Y = v1 * 4294967296 + v0
  v0lt : v0 < 4294967296
  v1lo : 2147483648 ≤ v1
  v1hi : v1 < 4294967296
  hu : u = hi * 2 ^ s + lo / 2 ^ (64 - s)
  ult : u < Y
  hl : l = lo * 2 ^ s % 18446744073709551616
  hd : l = d1 * 4294967296 + d0
  d1lt : d1 < 4294967296
  d0lt : d0 < 4294967296
  hQ1 : Q1 = (u * 4294967296 + d1) / Y
  hR : R = (u * 4294967296 + d1) % Y
  Rlt : R < Y
  hQ0 : Q0 = (R * 4294967296 + d0) / Y
  hR0 : R0 = (R * 4294967296 + d0) % Y
  quo : Q1 * 4294967296 + Q0 = (hi * 18446744073709551616 + lo) / y
  rem : R0 / 2 ^ s = (hi * 18446744073709551616 + lo) % y

theorem div2_of {hi lo y s : Nat} (hh : hi < y) (hl : lo < 18446744073709551616) (hs : s ≤ 63) (h1 : 9223372036854775808 ≤ y * 2 ^ s) (h2 : y * 2 ^ s < 18446744073709551616) :
    ∃ Y v1 v0 u l d1 d0 Q1 R Q0 R0, Div2 hi lo y s Y v1 v0 u l d1 d0 Q1 R Q0 R0 := by
  have hp := Nat.two_pow_pos s
  have hsplit : 2 ^ (64 - s) * 2 ^ s = 18446744073709551616 := by
    rw [← Nat.pow_add]; have : 64 - s + s = 64 := by omega
    rw [this]
  have hlo : lo / 2 ^ (64 - s) < 2 ^ s := by
    rw [Nat.div_lt_iff_lt_mul (Nat.two_pow_pos _), Nat.mul_comm, hsplit]; exact hl
  have hult : hi * 2 ^ s + lo / 2 ^ (64 - s) < y * 2 ^ s := by
    have : (hi + 1) * 2 ^ s ≤ y * 2 ^ s := Nat.mul_le_mul_right _ hh
    rw [Nat.add_mul, Nat.one_mul] at this; omega
  have hN : (hi * 18446744073709551616 + lo) * 2 ^ s = (hi * 2 ^ s + lo / 2 ^ (64 - s)) * 18446744073709551616 + lo * 2 ^ s % 18446744073709551616 := by
    have e1 : lo * 2 ^ s / 18446744073709551616 = lo / 2 ^ (64 - s) := by
      rw [← hsplit, Nat.mul_comm lo, Nat.mul_comm (2 ^ (64 - s)), Nat.mul_div_mul_left _ _ hp]
    have e2 := Nat.div_add_mod (lo * 2 ^ s) 18446744073709551616
    rw [e1] at e2
    have e3 : hi * 18446744073709551616 * 2 ^ s = hi * 2 ^ s * 18446744073709551616 := by rw [Nat.mul_right_comm]
    rw [Nat.add_mul, e3, Nat.add_mul]
    omega
  obtain ⟨Y, hY⟩ : ∃ Y, Y = y * 2 ^ s := ⟨_, rfl⟩
  obtain ⟨u, hu⟩ : ∃ u, u = hi * 2 ^ s + lo / 2 ^ (64 - s) := ⟨_, rfl⟩
  obtain ⟨l, hl'⟩ : ∃ l, l = lo * 2 ^ s % 18446744073709551616 := ⟨_, rfl⟩
  rw [← hu, ← hl'] at hN
  rw [← hY] at h1 h2 hult
  rw [← hu] at hult
  obtain ⟨Q1, hQ1⟩ : ∃ Q1, Q1 = (u * 4294967296 + l / 4294967296) / Y := ⟨_, rfl⟩
  obtain ⟨R, hR⟩ : ∃ R, R = (u * 4294967296 + l / 4294967296) % Y := ⟨_, rfl⟩
  obtain ⟨Q0, hQ0⟩ : ∃ Q0, Q0 = (R * 4294967296 + l % 4294967296) / Y := ⟨_, rfl⟩
  obtain ⟨R0, hR0⟩ : ∃ R0, R0 = (R * 4294967296 + l % 4294967296) % Y := ⟨_, rfl⟩
  have f1 : Q1 * Y + R = u * 4294967296 + l / 4294967296 := by rw [hQ1, hR]; exact Nat.div_add_mod' _ _
  have f2 : Q0 * Y + R0 = R * 4294967296 + l % 4294967296 := by rw [hQ0, hR0]; exact Nat.div_add_mod' _ _
  have hRlt : R < Y := by rw [hR]; exact Nat.mod_lt _ (by omega)
  have hR0lt : R0 < Y := by rw [hR0]; exact Nat.mod_lt _ (by omega)
  have f3 : (hi * 18446744073709551616 + lo) * 2 ^ s = (Q1 * 4294967296 + Q0) * Y + R0 := by
    have e : Q1 * 4294967296 * Y = Q1 * Y * 4294967296 := Nat.mul_right_comm _ _ _
    rw [hN, Nat.add_mul, e]; omega
  have q1 : (hi * 18446744073709551616 + lo) * 2 ^ s / Y = Q1 * 4294967296 + Q0 := by
    rw [f3, Nat.mul_comm _ Y, Nat.mul_add_div (by omega), Nat.div_eq_of_lt hR0lt]; omega
  have q2 : (hi * 18446744073709551616 + lo) * 2 ^ s % Y = R0 := by
    rw [f3, Nat.mul_comm _ Y, Nat.mul_add_mod, Nat.mod_eq_of_lt hR0lt]
  refine ⟨Y, Y / 4294967296, Y % 4294967296, u, l, l / 4294967296, l % 4294967296, Q1, R, Q0, R0, hY, h1, h2, by omega, by omega, by omega, by omega, hu, hult, hl', by omega, by omega, by omega, hQ1, hR, hRlt, hQ0, hR0, ?_, ?_⟩
  · rw [← q1, hY, Nat.mul_div_mul_right _ _ hp]
  · rw [← q2, hY, Nat.mul_mod_mul_right, Nat.mul_div_cancel _ hp]
end Go.Proofs.YtagjimdplmimoaaGreat.Num
/- The contract of math/bits.Div64. -/
namespace Go.Proofs.YtagjimdplmimoaaGreat.Num
open Go.ChangeShapes Go.WideShapes Go.RowKit
set_option linter.unusedVariables false

theorem and_low (a : Nat) (h : a < 18446744073709551616) : bits .and .u64 (a : Int) 4294967295 = ((a % 4294967296 : Nat) : Int) := by
  have h1 := bits_and_u64_nat a 4294967295 h (by omega)
  have e : a &&& 4294967295 = a % 4294967296 := Nat.and_two_pow_sub_one_eq_mod a 32
  rw [e] at h1
  exact h1
theorem or_parts {hi lo s : Nat} (hs : s ≤ 63) (h1 : hi * 2 ^ s < 18446744073709551616) (hl : lo < 18446744073709551616) :
    bits .or .u64 (IntKind.u64.wrap ((hi : Int) * 2 ^ s)) ((lo : Int) / 2 ^ (64 - s)) = ((hi * 2 ^ s + lo / 2 ^ (64 - s) : Nat) : Int) := by
  have e1 : IntKind.u64.wrap ((hi : Int) * 2 ^ s) = ((hi * 2 ^ s : Nat) : Int) := by
    have : ((hi * 2 ^ s : Nat) : Int) = (hi : Int) * 2 ^ s := by rw [Int.natCast_mul, Int.natCast_pow]; rfl
    rw [← this, IntKind.wrap_u64]; omega
  have e2 : (lo : Int) / 2 ^ (64 - s) = ((lo / 2 ^ (64 - s) : Nat) : Int) := by rw [Int.natCast_ediv, Int.natCast_pow]; rfl
  have hsplit : 2 ^ (64 - s) * 2 ^ s = 18446744073709551616 := by
    rw [← Nat.pow_add]; have : 64 - s + s = 64 := by omega
    rw [this]
  have hlo : lo / 2 ^ (64 - s) < 2 ^ s := by
    rw [Nat.div_lt_iff_lt_mul (Nat.two_pow_pos _), Nat.mul_comm, hsplit]; exact hl
  rw [e1, e2, bits_or_u64_nat _ _ h1 (by have := Nat.div_le_self lo (2 ^ (64 - s)); omega), Nat.mul_comm hi, Nat.two_pow_add_eq_or_of_lt hlo]
theorem wrap_low {lo s l : Nat} (h : l = lo * 2 ^ s % 18446744073709551616) : IntKind.u64.wrap ((lo : Int) * 2 ^ s) = l := by
  have : ((lo * 2 ^ s : Nat) : Int) = (lo : Int) * 2 ^ s := by rw [Int.natCast_mul, Int.natCast_pow]; rfl
  rw [← this, IntKind.wrap_u64]; omega
/-- What is left of u and the digit d behind the digit Q of the quotient, in one word. -/
theorem wrap_rest {u d Q Y R : Nat} (hQ : Q = (u * 4294967296 + d) / Y) (hR : R = (u * 4294967296 + d) % Y) (hlt : R < Y) (hY : Y < 18446744073709551616) :
    IntKind.u64.wrap (IntKind.u64.wrap (IntKind.u64.wrap ((u : Int) * 4294967296) + (d : Int)) - IntKind.u64.wrap ((Q : Int) * (Y : Int))) = R := by
  have e : Q * Y + R = u * 4294967296 + d := by rw [hQ, hR]; exact Nat.div_add_mod' _ _
  have e2 : ((Q * Y : Nat) : Int) = (Q : Int) * (Y : Int) := Int.natCast_mul _ _
  rw [← e2]
  simp only [IntKind.wrap_u64]
  omega
theorem ret_u2 {a b c d : Nat} (h : a = c) (k : b = d) : Ending.returned (.tuple #[.int .u64 (a : Int), .int .u64 (b : Int)]) = .returned (.tuple #[.int .u64 (c : Int), .int .u64 (d : Int)]) := by rw [h, k]

/-- The ways through one round of a loop. -/
theorem k_cases {u v v1 v0 d Q q r : Nat} (h : KAt u v1 Q q r) (hv : v = v1 * 4294967296 + v0) (h1 : 1 ≤ v1) (h0 : v0 < 4294967296) (hd : d < 4294967296) (hu : u < v) (hQ : Q = (u * 4294967296 + d) / v) :
    (q = Q ∧ q < 4294967296 ∧ q * v0 ≤ 4294967296 * r + d) ∨
    (∃ p, q = p + 1 ∧ (4294967296 ≤ p + 1 ∨ (p + 1 < 4294967296 ∧ 4294967296 * r + d < (p + 1) * v0)) ∧ ((p = Q ∧ 4294967296 ≤ r + v1) ∨ (KAt u v1 Q p (r + v1) ∧ r + v1 < 4294967296))) := by
  by_cases t1 : 4294967296 ≤ q
  · refine Or.inr ?_
    have hb := k_body h hv h1 hu hd hQ (Or.inl t1)
    obtain ⟨p, rfl⟩ : ∃ p, q = p + 1 := ⟨q - 1, by omega⟩
    refine ⟨p, rfl, Or.inl t1, ?_⟩
    by_cases t3 : 4294967296 ≤ r + v1
    · exact Or.inl ⟨k_break h hv h1 h0 hu hQ (by omega) t3, t3⟩
    · exact Or.inr ⟨k_next h (by omega) (by omega), by omega⟩
  · by_cases t2 : 4294967296 * r + d < q * v0
    · refine Or.inr ?_
      have hb := k_body h hv h1 hu hd hQ (Or.inr t2)
      obtain ⟨p, rfl⟩ : ∃ p, q = p + 1 := ⟨q - 1, by omega⟩
      refine ⟨p, rfl, Or.inr ⟨by omega, t2⟩, ?_⟩
      by_cases t3 : 4294967296 ≤ r + v1
      · exact Or.inl ⟨k_break h hv h1 h0 hu hQ (by omega) t3, t3⟩
      · exact Or.inr ⟨k_next h (by omega) (by omega), by omega⟩
    · exact Or.inl ⟨k_exit h hv h1 hQ (by omega), by omega, by omega⟩

theorem quo_rem {hi lo y s Y v1 v0 u l d1 d0 Q1 R Q0 R0 : Nat} (D : Div2 hi lo y s Y v1 v0 u l d1 d0 Q1 R Q0 R0) :
    Ending.returned (.tuple #[.int .u64 ((Q1 : Int) * 4294967296 + (Q0 : Int)), .int .u64 ((R0 : Int) / 2 ^ s)]) =
      .returned (.tuple #[.int .u64 (((hi * 18446744073709551616 + lo) / y : Nat) : Int), .int .u64 (((hi * 18446744073709551616 + lo) % y : Nat) : Int)]) := by
  rw [← D.quo, ← D.rem, Int.natCast_add, Int.natCast_mul, Int.natCast_ediv, Int.natCast_pow]
  rfl

set_option maxHeartbeats 2000000 in
set_option maxRecDepth 100000 in
theorem bits_div64 (hi lo y : Nat) (w : World) (hh : hi < y) (hy : y < 18446744073709551616) (hl : lo < 18446744073709551616) :
    Calls Tryz.prog 87 #[.int .u64 (hi : Int), .int .u64 (lo : Int), .int .u64 (y : Int)] w fun e w' => e = .returned (.tuple #[.int .u64 (((hi * 18446744073709551616 + lo) / y : Nat) : Int), .int .u64 (((hi * 18446744073709551616 + lo) % y : Nat) : Int)]) ∧ Below w.heap.size w w' := by
  have y1 : 1 ≤ (y : Int) := by omega
  have hh' : (hi : Int) < y := by omega
  by_cases h0 : hi = 0
  · subst h0
    have hll : (lo : Int) ≤ 18446744073709551615 := by omega
    rw [show ((0 : Nat) : Int) = 0 from rfl]
    clear hh'
    go_enter Tryz.func87, Tryz.ntmps87
    go_wp2_with fail
    go_quiet (fail)
    go_wp2_with fail
    go_ret2
    have hq : lo / y < 18446744073709551616 := Nat.lt_of_le_of_lt (Nat.div_le_self _ _) hl
    exact ⟨ret_u2 (by simp; exact Nat.mod_eq_of_lt hq) (by simp), below_drewN (Below.refl _ _) _⟩
  · have h1 : 1 ≤ (hi : Int) := by omega
    clear h0
    obtain ⟨s, hs2, hs3, hn1, hn2⟩ := norm_of (y := y) (by omega) hy
    obtain ⟨Y, v1, v0, u, l, d1, d0, Q1, R, Q0, R0, D⟩ := div2_of hh hl hs2 hn1 hn2
    have hlz : ∀ W, Calls Tryz.prog 100 #[.int .u64 (y : Int)] W fun e w' => e = .returned (.int .i64 (s : Int)) ∧ W = w' :=
      fun W => (Tryz.bits_LeadingZeros64 (y : Int) W (by omega) (by omega)).mono fun e w' k => ⟨by rw [k.1, ← hs3]; rfl, k.2.symm⟩
    have hY : (y : Int) * 2 ^ s = Y := by rw [D.hY, Int.natCast_mul, Int.natCast_pow]; rfl
    have b1 : (Y : Int) ≤ 18446744073709551615 := by have := D.Yhi; omega
    have hv1 : (Y : Int) / 4294967296 = v1 := by have := D.hv; have := D.v0lt; omega
    have hv0 : bits .and .u64 (Y : Int) 4294967295 = v0 := by rw [and_low _ D.Yhi]; have := D.hv; have := D.v0lt; omega
    have k1 : 2147483648 ≤ (v1 : Int) := by have := D.v1lo; omega
    have k2 : (v1 : Int) ≤ 4294967295 := by have := D.v1hi; omega
    have k3 : (v0 : Int) ≤ 4294967295 := by have := D.v0lt; omega
    have hU : bits .or .u64 (IntKind.u64.wrap ((hi : Int) * 2 ^ s)) ((lo : Int) / 2 ^ (64 - s)) = u := by
      rw [or_parts hs2 ?_ hl, ← D.hu]
      have := D.hu; have := D.ult; have := D.Yhi
      have := Nat.zero_le (lo / 2 ^ (64 - s))
      omega
    have hL : IntKind.u64.wrap ((lo : Int) * 2 ^ s) = l := wrap_low D.hl
    have b2 : (l : Int) ≤ 18446744073709551615 := by have := D.hl; omega
    have b3 : (u : Int) ≤ 18446744073709551615 := by have := D.ult; omega
    have hd1 : (l : Int) / 4294967296 = d1 := by have := D.hd; have := D.d0lt; omega
    have hd0 : bits .and .u64 (l : Int) 4294967295 = d0 := by rw [and_low _ (by omega)]; have := D.hd; have := D.d0lt; omega
    have k4 : (d1 : Int) ≤ 4294967295 := by have := D.d1lt; omega
    have k5 : (d0 : Int) ≤ 4294967295 := by have := D.d0lt; omega
    have hq1 : (Q1 : Int) ≤ 4294967295 := by have := k_lt D.ult D.d1lt D.hQ1; omega
    have hq0 : (Q0 : Int) ≤ 4294967295 := by have := k_lt D.Rlt D.d0lt D.hQ0; omega
    obtain ⟨qa, hqa⟩ : ∃ qa : Nat, (u : Int) / v1 = qa := ⟨u / v1, (Int.natCast_ediv _ _)⟩
    obtain ⟨ma, hma⟩ : ∃ ma : Nat, (qa : Int) * v1 = ma := ⟨qa * v1, (Int.natCast_mul _ _).symm⟩
    obtain ⟨ra, hra⟩ : ∃ ra : Nat, ra = u % v1 := ⟨_, rfl⟩
    have eqa : qa = u / v1 := by rw [← Int.natCast_ediv] at hqa; omega
    have ema : ma = qa * v1 := by rw [← Int.natCast_mul] at hma; omega
    have ema2 : ma + ra = u := by rw [ema, eqa, hra]; exact Nat.div_add_mod' _ _
    have hqa1 : (qa : Int) ≤ 18446744073709551615 := by have := Nat.div_le_self u v1; omega
    have hsub : (u : Int) - (ma : Int) = ra := by omega
    have hma1 : (ma : Int) ≤ 18446744073709551615 := by omega
    have hma2 : (ma : Int) ≤ u := by omega
    have hKa : KAt u v1 Q1 qa ra := by rw [eqa, hra]; exact k_start D.hv (by omega) D.v1hi D.d1lt D.hQ1
    have HKa := Lib.hid hKa
    clear hra eqa ema ema2 hKa
    obtain ⟨qb, hqb⟩ : ∃ qb : Nat, (R : Int) / v1 = qb := ⟨R / v1, (Int.natCast_ediv _ _)⟩
    obtain ⟨mb, hmb⟩ : ∃ mb : Nat, (qb : Int) * v1 = mb := ⟨qb * v1, (Int.natCast_mul _ _).symm⟩
    obtain ⟨rb, hrb⟩ : ∃ rb : Nat, rb = R % v1 := ⟨_, rfl⟩
    have eqb : qb = R / v1 := by rw [← Int.natCast_ediv] at hqb; omega
    have emb : mb = qb * v1 := by rw [← Int.natCast_mul] at hmb; omega
    have emb2 : mb + rb = R := by rw [emb, eqb, hrb]; exact Nat.div_add_mod' _ _
    have b4 : (R : Int) ≤ 18446744073709551615 := by have := D.Rlt; omega
    have hqb1 : (qb : Int) ≤ 18446744073709551615 := by have := Nat.div_le_self R v1; omega
    have hsubb : (R : Int) - (mb : Int) = rb := by omega
    have hmb1 : (mb : Int) ≤ 18446744073709551615 := by omega
    have hmb2 : (mb : Int) ≤ R := by omega
    have hKb : KAt R v1 Q0 qb rb := by rw [eqb, hrb]; exact k_start D.hv (by omega) D.v1hi D.d0lt D.hQ0
    have HKb := Lib.hid hKb
    clear hrb eqb emb emb2 hKb
    have HR2 := Lib.hid (wrap_rest D.hQ0 D.hR0 (by rw [D.hR0]; exact Nat.mod_lt _ (by omega)) D.Yhi)
    have HR := Lib.hid (wrap_rest D.hQ1 D.hR D.Rlt D.Yhi)
    have LZ := Lib.hid hlz
    clear hlz hn1 hn2 hs3
    go_enter Tryz.func87, Tryz.ntmps87
    go_wp2_with fail
    refine (LZ.out _).mono ?_
    rintro e w' ⟨rfl, rfl⟩
    go_wp2_with fail
    go_loop [15, 16] (fun x z => ∃ q r : Nat, x = .int .u64 q ∧ z = .int .u64 r ∧ KAt u v1 Q1 q r) (fun x _ => (intOf x).toNat)
    case atStart => exact ⟨_, _, rfl, rfl, HKa.out⟩
    case round =>
      obtain ⟨q, r, rfl, rfl, hk⟩ := hrel
      have hsm : (r : Int) < 4294967296 := by have := hk.small; omega
      have hqu : (q : Int) ≤ 18446744073709551615 := by
        have h1 := hk.sum
        have h2 : q * 1 ≤ q * v1 := Nat.mul_le_mul_left q (by omega)
        have h3 : u ≤ 18446744073709551615 := by have := D.ult; have := D.Yhi; omega
        omega
      rcases k_cases hk D.hv (by omega) D.v0lt D.d1lt D.ult D.hQ1 with ⟨x0, x1, x2⟩ | ⟨p, rfl, x1, x3⟩
      · obtain ⟨P, hP⟩ : ∃ P : Nat, (Q1 : Int) * v0 = P := ⟨Q1 * v0, (Int.natCast_mul _ _).symm⟩
        have hP1 : decide ((4294967296 : Int) * r + d1 < P) = false := decide_eq_false (by rw [x0] at x2; rw [← hP, ← Int.natCast_mul]; omega)
        have hP2 : (P : Int) ≤ 18446744073709551615 := by
          have h1 : Q1 * v0 ≤ 4294967295 * 4294967295 := Nat.mul_le_mul (by omega) (by omega)
          rw [← hP, ← Int.natCast_mul]; omega
        have x4 : decide ((4294967296 : Int) ≤ (Q1 : Int)) = false := decide_eq_false (by omega)
        rw [x0]
        clear hk x0 x1 x2 hqu
        have hr := HR.out
        go_wp2_with fail
        go_loop [18, 16] (fun x z => ∃ q r : Nat, x = .int .u64 q ∧ z = .int .u64 r ∧ KAt R v1 Q0 q r) (fun x _ => (intOf x).toNat)
        case atStart => exact ⟨_, _, rfl, rfl, HKb.out⟩
        case round =>
          obtain ⟨q, r, rfl, rfl, hk⟩ := hrel
          have hsm : (r : Int) < 4294967296 := by have := hk.small; omega
          have hqu : (q : Int) ≤ 18446744073709551615 := by
            have h1 := hk.sum
            have h2 : q * 1 ≤ q * v1 := Nat.mul_le_mul_left q (by omega)
            have h3 : R ≤ 18446744073709551615 := by have := D.Rlt; have := D.Yhi; omega
            omega
          rcases k_cases hk D.hv (by omega) D.v0lt D.d0lt D.Rlt D.hQ0 with ⟨x0, x1, x2⟩ | ⟨p, rfl, x1, x3⟩
          · obtain ⟨P, hP⟩ : ∃ P : Nat, (Q0 : Int) * v0 = P := ⟨Q0 * v0, (Int.natCast_mul _ _).symm⟩
            have hP1 : decide ((4294967296 : Int) * r + d0 < P) = false := decide_eq_false (by rw [x0] at x2; rw [← hP, ← Int.natCast_mul]; omega)
            have hP2 : (P : Int) ≤ 18446744073709551615 := by
              have h1 : Q0 * v0 ≤ 4294967295 * 4294967295 := Nat.mul_le_mul (by omega) (by omega)
              rw [← hP, ← Int.natCast_mul]; omega
            have x4 : decide ((4294967296 : Int) ≤ (Q0 : Int)) = false := decide_eq_false (by omega)
            rw [x0]
            clear hk x0 x1 x2 hqu
            have hr2 := HR2.out
            go_wp2_with fail
            go_ret2
            exact ⟨quo_rem D, Below.refl _ _⟩
          · have hqu' : (p : Int) + 1 ≤ 18446744073709551615 := by omega
            clear hqu hk
            rw [Int.natCast_add, Int.natCast_one]
            rcases x1 with x1 | ⟨x1, x2⟩
            · have x4 : 4294967296 ≤ (p : Int) + 1 := by omega
              clear x1
              rcases x3 with ⟨x5, x6⟩ | ⟨x5, x6⟩
              · subst x5
                have x7 : 4294967296 ≤ (r : Int) + v1 := by omega
                clear x6
                have hr2 := HR2.out
                go_wp2_with fail
                go_ret2
                exact ⟨quo_rem D, Below.refl _ _⟩
              · have x7 : decide ((4294967296 : Int) ≤ (r : Int) + v1) = false := decide_eq_false (by omega)
                have X5 := Lib.hid x5
                clear x6 x5
                go_wp2_with fail
                go_round
                case rel => exact ⟨p, r + v1, rfl, by go_num, X5.out⟩
                case measure => simp [intOf]
            · obtain ⟨P, hP⟩ : ∃ P : Nat, ((p : Int) + 1) * v0 = P := ⟨(p + 1) * v0, by rw [Int.natCast_mul, Int.natCast_add]; rfl⟩
              have hP1 : 4294967296 * (r : Int) + d0 < P := by rw [← hP, ← Int.natCast_one, ← Int.natCast_add, ← Int.natCast_mul]; omega
              have hP2 : (P : Int) ≤ 18446744073709551615 := by
                have h1 : (p + 1) * v0 ≤ 4294967295 * 4294967295 := Nat.mul_le_mul (by omega) (by omega)
                rw [← hP, ← Int.natCast_one, ← Int.natCast_add, ← Int.natCast_mul]; omega
              have x4 : (p : Int) + 1 < 4294967296 := by omega
              clear x1 x2
              rcases x3 with ⟨x5, x6⟩ | ⟨x5, x6⟩
              · subst x5
                have x7 : 4294967296 ≤ (r : Int) + v1 := by omega
                clear x6
                have hr2 := HR2.out
                go_wp2_with fail
                go_ret2
                exact ⟨quo_rem D, Below.refl _ _⟩
              · have x7 : decide ((4294967296 : Int) ≤ (r : Int) + v1) = false := decide_eq_false (by omega)
                have X5 := Lib.hid x5
                clear x6 x5
                go_wp2_with fail
                go_round
                case rel => exact ⟨p, r + v1, rfl, by go_num, X5.out⟩
                case measure => simp [intOf]
      · have hqu' : (p : Int) + 1 ≤ 18446744073709551615 := by omega
        clear hqu hk
        rw [Int.natCast_add, Int.natCast_one]
        rcases x1 with x1 | ⟨x1, x2⟩
        · have x4 : 4294967296 ≤ (p : Int) + 1 := by omega
          clear x1
          rcases x3 with ⟨x5, x6⟩ | ⟨x5, x6⟩
          · subst x5
            have x7 : 4294967296 ≤ (r : Int) + v1 := by omega
            clear x6
            have hr := HR.out
            go_wp2_with fail
            go_loop [18, 16] (fun x z => ∃ q r : Nat, x = .int .u64 q ∧ z = .int .u64 r ∧ KAt R v1 Q0 q r) (fun x _ => (intOf x).toNat)
            case atStart => exact ⟨_, _, rfl, rfl, HKb.out⟩
            case round =>
              obtain ⟨q, r, rfl, rfl, hk⟩ := hrel
              have hsm : (r : Int) < 4294967296 := by have := hk.small; omega
              have hqu : (q : Int) ≤ 18446744073709551615 := by
                have h1 := hk.sum
                have h2 : q * 1 ≤ q * v1 := Nat.mul_le_mul_left q (by omega)
                have h3 : R ≤ 18446744073709551615 := by have := D.Rlt; have := D.Yhi; omega
                omega
              rcases k_cases hk D.hv (by omega) D.v0lt D.d0lt D.Rlt D.hQ0 with ⟨x0, x1, x2⟩ | ⟨p, rfl, x1, x3⟩
              · obtain ⟨P, hP⟩ : ∃ P : Nat, (Q0 : Int) * v0 = P := ⟨Q0 * v0, (Int.natCast_mul _ _).symm⟩
                have hP1 : decide ((4294967296 : Int) * r + d0 < P) = false := decide_eq_false (by rw [x0] at x2; rw [← hP, ← Int.natCast_mul]; omega)
                have hP2 : (P : Int) ≤ 18446744073709551615 := by
                  have h1 : Q0 * v0 ≤ 4294967295 * 4294967295 := Nat.mul_le_mul (by omega) (by omega)
                  rw [← hP, ← Int.natCast_mul]; omega
                have x4 : decide ((4294967296 : Int) ≤ (Q0 : Int)) = false := decide_eq_false (by omega)
                rw [x0]
                clear hk x0 x1 x2 hqu
                have hr2 := HR2.out
                go_wp2_with fail
                go_ret2
                exact ⟨quo_rem D, Below.refl _ _⟩
              · have hqu' : (p : Int) + 1 ≤ 18446744073709551615 := by omega
                clear hqu hk
                rw [Int.natCast_add, Int.natCast_one]
                rcases x1 with x1 | ⟨x1, x2⟩
                · have x4 : 4294967296 ≤ (p : Int) + 1 := by omega
                  clear x1
                  rcases x3 with ⟨x5, x6⟩ | ⟨x5, x6⟩
                  · subst x5
                    have x7 : 4294967296 ≤ (r : Int) + v1 := by omega
                    clear x6
                    have hr2 := HR2.out
                    go_wp2_with fail
                    go_ret2
                    exact ⟨quo_rem D, Below.refl _ _⟩
                  · have x7 : decide ((4294967296 : Int) ≤ (r : Int) + v1) = false := decide_eq_false (by omega)
                    have X5 := Lib.hid x5
                    clear x6 x5
                    go_wp2_with fail
                    go_round
                    case rel => exact ⟨p, r + v1, rfl, by go_num, X5.out⟩
                    case measure => simp [intOf]
                · obtain ⟨P, hP⟩ : ∃ P : Nat, ((p : Int) + 1) * v0 = P := ⟨(p + 1) * v0, by rw [Int.natCast_mul, Int.natCast_add]; rfl⟩
                  have hP1 : 4294967296 * (r : Int) + d0 < P := by rw [← hP, ← Int.natCast_one, ← Int.natCast_add, ← Int.natCast_mul]; omega
                  have hP2 : (P : Int) ≤ 18446744073709551615 := by
                    have h1 : (p + 1) * v0 ≤ 4294967295 * 4294967295 := Nat.mul_le_mul (by omega) (by omega)
                    rw [← hP, ← Int.natCast_one, ← Int.natCast_add, ← Int.natCast_mul]; omega
                  have x4 : (p : Int) + 1 < 4294967296 := by omega
                  clear x1 x2
                  rcases x3 with ⟨x5, x6⟩ | ⟨x5, x6⟩
                  · subst x5
                    have x7 : 4294967296 ≤ (r : Int) + v1 := by omega
                    clear x6
                    have hr2 := HR2.out
                    go_wp2_with fail
                    go_ret2
                    exact ⟨quo_rem D, Below.refl _ _⟩
                  · have x7 : decide ((4294967296 : Int) ≤ (r : Int) + v1) = false := decide_eq_false (by omega)
                    have X5 := Lib.hid x5
                    clear x6 x5
                    go_wp2_with fail
                    go_round
                    case rel => exact ⟨p, r + v1, rfl, by go_num, X5.out⟩
                    case measure => simp [intOf]
          · have x7 : decide ((4294967296 : Int) ≤ (r : Int) + v1) = false := decide_eq_false (by omega)
            have X5 := Lib.hid x5
            clear x6 x5
            go_wp2_with fail
            go_round
            case rel => exact ⟨p, r + v1, rfl, by go_num, X5.out⟩
            case measure => simp [intOf]
        · obtain ⟨P, hP⟩ : ∃ P : Nat, ((p : Int) + 1) * v0 = P := ⟨(p + 1) * v0, by rw [Int.natCast_mul, Int.natCast_add]; rfl⟩
          have hP1 : 4294967296 * (r : Int) + d1 < P := by rw [← hP, ← Int.natCast_one, ← Int.natCast_add, ← Int.natCast_mul]; omega
          have hP2 : (P : Int) ≤ 18446744073709551615 := by
            have h1 : (p + 1) * v0 ≤ 4294967295 * 4294967295 := Nat.mul_le_mul (by omega) (by omega)
            rw [← hP, ← Int.natCast_one, ← Int.natCast_add, ← Int.natCast_mul]; omega
          have x4 : (p : Int) + 1 < 4294967296 := by omega
          clear x1 x2
          rcases x3 with ⟨x5, x6⟩ | ⟨x5, x6⟩
          · subst x5
            have x7 : 4294967296 ≤ (r : Int) + v1 := by omega
            clear x6
            have hr := HR.out
            go_wp2_with fail
            go_loop [18, 16] (fun x z => ∃ q r : Nat, x = .int .u64 q ∧ z = .int .u64 r ∧ KAt R v1 Q0 q r) (fun x _ => (intOf x).toNat)
            case atStart => exact ⟨_, _, rfl, rfl, HKb.out⟩
            case round =>
              obtain ⟨q, r, rfl, rfl, hk⟩ := hrel
              have hsm : (r : Int) < 4294967296 := by have := hk.small; omega
              have hqu : (q : Int) ≤ 18446744073709551615 := by
                have h1 := hk.sum
                have h2 : q * 1 ≤ q * v1 := Nat.mul_le_mul_left q (by omega)
                have h3 : R ≤ 18446744073709551615 := by have := D.Rlt; have := D.Yhi; omega
                omega
              rcases k_cases hk D.hv (by omega) D.v0lt D.d0lt D.Rlt D.hQ0 with ⟨x0, x1, x2⟩ | ⟨p, rfl, x1, x3⟩
              · obtain ⟨P, hP⟩ : ∃ P : Nat, (Q0 : Int) * v0 = P := ⟨Q0 * v0, (Int.natCast_mul _ _).symm⟩
                have hP1 : decide ((4294967296 : Int) * r + d0 < P) = false := decide_eq_false (by rw [x0] at x2; rw [← hP, ← Int.natCast_mul]; omega)
                have hP2 : (P : Int) ≤ 18446744073709551615 := by
                  have h1 : Q0 * v0 ≤ 4294967295 * 4294967295 := Nat.mul_le_mul (by omega) (by omega)
                  rw [← hP, ← Int.natCast_mul]; omega
                have x4 : decide ((4294967296 : Int) ≤ (Q0 : Int)) = false := decide_eq_false (by omega)
                rw [x0]
                clear hk x0 x1 x2 hqu
                have hr2 := HR2.out
                go_wp2_with fail
                go_ret2
                exact ⟨quo_rem D, Below.refl _ _⟩
              · have hqu' : (p : Int) + 1 ≤ 18446744073709551615 := by omega
                clear hqu hk
                rw [Int.natCast_add, Int.natCast_one]
                rcases x1 with x1 | ⟨x1, x2⟩
                · have x4 : 4294967296 ≤ (p : Int) + 1 := by omega
                  clear x1
                  rcases x3 with ⟨x5, x6⟩ | ⟨x5, x6⟩
                  · subst x5
                    have x7 : 4294967296 ≤ (r : Int) + v1 := by omega
                    clear x6
                    have hr2 := HR2.out
                    go_wp2_with fail
                    go_ret2
                    exact ⟨quo_rem D, Below.refl _ _⟩
                  · have x7 : decide ((4294967296 : Int) ≤ (r : Int) + v1) = false := decide_eq_false (by omega)
                    have X5 := Lib.hid x5
                    clear x6 x5
                    go_wp2_with fail
                    go_round
                    case rel => exact ⟨p, r + v1, rfl, by go_num, X5.out⟩
                    case measure => simp [intOf]
                · obtain ⟨P, hP⟩ : ∃ P : Nat, ((p : Int) + 1) * v0 = P := ⟨(p + 1) * v0, by rw [Int.natCast_mul, Int.natCast_add]; rfl⟩
                  have hP1 : 4294967296 * (r : Int) + d0 < P := by rw [← hP, ← Int.natCast_one, ← Int.natCast_add, ← Int.natCast_mul]; omega
                  have hP2 : (P : Int) ≤ 18446744073709551615 := by
                    have h1 : (p + 1) * v0 ≤ 4294967295 * 4294967295 := Nat.mul_le_mul (by omega) (by omega)
                    rw [← hP, ← Int.natCast_one, ← Int.natCast_add, ← Int.natCast_mul]; omega
                  have x4 : (p : Int) + 1 < 4294967296 := by omega
                  clear x1 x2
                  rcases x3 with ⟨x5, x6⟩ | ⟨x5, x6⟩
                  · subst x5
                    have x7 : 4294967296 ≤ (r : Int) + v1 := by omega
                    clear x6
                    have hr2 := HR2.out
                    go_wp2_with fail
                    go_ret2
                    exact ⟨quo_rem D, Below.refl _ _⟩
                  · have x7 : decide ((4294967296 : Int) ≤ (r : Int) + v1) = false := decide_eq_false (by omega)
                    have X5 := Lib.hid x5
                    clear x6 x5
                    go_wp2_with fail
                    go_round
                    case rel => exact ⟨p, r + v1, rfl, by go_num, X5.out⟩
                    case measure => simp [intOf]
          · have x7 : decide ((4294967296 : Int) ≤ (r : Int) + v1) = false := decide_eq_false (by omega)
            have X5 := Lib.hid x5
            clear x6 x5
            go_wp2_with fail
            go_round
            case rel => exact ⟨p, r + v1, rfl, by go_num, X5.out⟩
            case measure => simp [intOf]
end Go.Proofs.YtagjimdplmimoaaGreat.Num
