/- The contract of nat.Text. -/
import Derived.Test.YtmbpcjnlniidkaaDoorNatI
import Derived.Lib.ItoaNum
import Derived.Lib.ItoaLen
import Derived.Lib.AppendStr
namespace Go.Proofs.YtmbpcjnlniidkaaDoor
open Go.ChangeShapes Go.WideShapes Go.RowKit
set_option linter.unusedVariables false

/-- The table of powers of ten reads as it was laid. -/
def Tab (w : World) : Prop := Lib.TabBelow Tryd.prog w.heap.size w "internal/strconv.uint64pow10" .u64 Lib.pow10Tab
theorem Tab.on {w w' : World} (h : Tab w) (hb : Below w.heap.size w w') : Tab w' := fun w2 h2 => h w2 (hb.trans (h2.mono hb.size))
theorem Tab.here {w : World} (h : Tab w) : Lib.TabIs Tryd.prog w "internal/strconv.uint64pow10" .u64 Lib.pow10Tab := h w (Below.refl _ _)

def padD : Nat → Nat → List UInt8
  | 0, _ => []
  | k + 1, r => padD k (r / 10) ++ [UInt8.ofNat (48 + r % 10)]
theorem padD_length (k : Nat) : ∀ r, (padD k r).length = k := by
  induction k with
  | zero => intro r; rfl
  | succ k ih => intro r; rw [padD, List.length_append, ih]; rfl
theorem dec_pad (k : Nat) : ∀ (q r : Nat), 0 < q → r < 10 ^ k → Lib.decDigits (q * 10 ^ k + r) = Lib.decDigits q ++ padD k r := by
  induction k with
  | zero => intro q r hq hr; obtain rfl : r = 0 := by simpa using hr
            simp [padD]
  | succ k ih =>
    intro q r hq hr
    have p : 0 < 10 ^ k := Nat.pow_pos (by decide)
    rw [Nat.pow_succ] at hr ⊢
    have e1 : (q * (10 ^ k * 10) + r) / 10 = q * 10 ^ k + r / 10 := by
      rw [← Nat.mul_assoc, Nat.mul_comm (q * 10 ^ k) 10, Nat.mul_add_div (by decide)]
    have e2 : (q * (10 ^ k * 10) + r) % 10 = r % 10 := by
      rw [← Nat.mul_assoc, Nat.mul_comm (q * 10 ^ k) 10, Nat.mul_add_mod]
    have big : ¬ q * (10 ^ k * 10) + r < 10 := by
      have : 1 * (1 * 10) ≤ q * (10 ^ k * 10) := Nat.mul_le_mul hq (Nat.mul_le_mul_right 10 p)
      omega
    rw [Lib.decDigits, dif_neg big, e1, e2, ih q (r / 10) hq (by omega), padD, List.append_assoc]
theorem dec_limb {x : Nat} (h : x < 1000000000) : Lib.decDigits (1000000000 + x) = 49 :: padD 9 x := by
  have := dec_pad 9 1 x (by decide) (by simpa using h)
  have e : Lib.decDigits 1 = [49] := by rw [Lib.decDigits_one (by decide)]; rfl
  rw [e] at this
  simpa using this
theorem dec_next {x q : Nat} (h : x < 1000000000) (hq : 0 < q) : Lib.decDigits (x + 1000000000 * q) = Lib.decDigits q ++ padD 9 x := by
  have := dec_pad 9 q x hq (by simpa using h)
  rw [← this]; congr 1; omega
def decS (n : Nat) : ByteArray := ⟨(Lib.decDigits n).toArray⟩
def textV (xs : List Int) : ByteArray := if validB xs then decS (nval xs).toNat else ⟨#[]⟩
def oneE (xs : List Int) : Int := if validB xs then 0 else 3

theorem own_keep {w w' : World} {base e size n : Nat} {v : Value} {xs : List Value} (h : w.ownsRow base e size v n xs) (hb : Below w.heap.size w w') : w'.ownsRow base e size v n xs := by
  obtain ⟨h1, h2 | ⟨g, cap, cur, rfl, h3, h4, h5⟩⟩ := h
  · exact ⟨h1, Or.inl h2⟩
  · exact ⟨h1, Or.inr ⟨g, cap, cur, rfl, h3, (hb.block g (lt_of_block h4)).trans h4, h5⟩⟩
theorem grow_below' (w : World) (k : Nat) (os : Array Obj) : Below w.heap.size w (Sort.grow (w.drewN k) os) := by
  refine ⟨rfl, rfl, rfl, ?_, fun i hi => ?_⟩
  · show w.heap.size ≤ (w.heap ++ os).size; rw [Array.size_append]; omega
  · show (w.heap ++ os)[i]? = _; rw [Array.getElem?_append_left hi]
theorem info_byte : (Tryd.prog.info? 5).map (fun i => (i.zero, i.size, i.bytes)) = some (some (.int .u8 0), 1, 1) := by kernel_rfl
theorem itoa_nn {x : Int} (h : 0 ≤ x) : Lib.itoa x = Lib.decDigits x.toNat := by unfold Lib.itoa; rw [if_neg (by omega)]
theorem nval_pos_last {xs : List Int} (hn : nrm xs = true) {k : Nat} (hk : k < xs.length) : 0 < nval (xs.drop k) := by
  have hl := nrm_lok hn
  have hne : xs.drop k ≠ [] := by intro h; have := congrArg List.length h; simp at this; omega
  have e := List.dropLast_concat_getLast hne
  have h1 := nval_nonneg (lok_drop hl k)
  rcases Int.lt_or_eq_of_le h1 with h | h
  · exact h
  · exfalso
    have hz : (xs.drop k).getLast? = some ((xs.drop k).getLast hne) := List.getLast?_eq_some_getLast hne
    have hz2 : xs.getLast? = some ((xs.drop k).getLast hne) := by rw [← hz, List.getLast?_drop, if_neg (by omega)]
    have hlok := lok_drop hl k
    rw [← e, lok_append] at hlok
    have a := nval_nonneg hlok.1
    rw [← e, nval_snoc] at h
    have z0 : 0 ≤ (xs.drop k).getLast hne := (lok_cons.mp hlok.2).1.1
    have p := pow_pos' (xs.drop k).dropLast.length
    have hm := Int.mul_nonneg (Int.le_of_lt p) z0
    have hm0 : 1000000000 ^ (xs.drop k).dropLast.length * (xs.drop k).getLast hne = 0 := by omega
    rcases Int.mul_eq_zero.mp hm0 with h2 | h2
    · omega
    · rw [h2] at hz2; simp [nrm, hz2] at hn

theorem nval_last {xs : List Int} {z : Int} (hz : xs[xs.length - 1]? = some z) : nval (xs.drop (xs.length - 1)) = z := by
  have h := nval_drop_step hz
  have hp : 0 < xs.length := by
    rcases Nat.eq_zero_or_pos xs.length with h1 | h1
    · have : xs = [] := List.eq_nil_of_length_eq_zero h1
      subst this; simp at hz
    · exact h1
  rw [h, List.drop_eq_nil_of_le (by omega)]; simp [nval]
theorem text_start {xs : List Int} {z : Int} (hn : nrm xs = true) (hz : xs[xs.length - 1]? = some z) : Lib.itoa z = Lib.decDigits (nval (xs.drop (xs.length - 1 - 0))).toNat := by
  rw [Nat.sub_zero, nval_last hz, itoa_nn (lok_at (nrm_lok hn) hz).1]
theorem text_step {xs : List Int} {x : Int} {k : Nat} (hn : nrm xs = true) (hk : k < xs.length - 1) (hx : xs[xs.length - 1 - 1 - k]? = some x) :
    Lib.decDigits (nval (xs.drop (xs.length - 1 - (k + 1)))).toNat = Lib.decDigits (nval (xs.drop (xs.length - 1 - k))).toNat ++ padD 9 x.toNat := by
  have e0 : xs.length - 1 - (k + 1) = xs.length - 1 - 1 - k := by omega
  have h := nval_drop_step hx
  have e1 : xs.length - 1 - 1 - k + 1 = xs.length - 1 - k := by omega
  rw [e1] at h
  have p := nval_pos_last hn (k := xs.length - 1 - k) (by omega)
  have b := lok_at (nrm_lok hn) hx
  rw [e0, h, ← dec_next (x := x.toNat) (by omega) (q := (nval (xs.drop (xs.length - 1 - k))).toNat) (by omega)]
  congr 1; omega
theorem tail_bytes {x : Int} (h0 : 0 ≤ x) (h1 : x < 1000000000) : Lib.itoa (1000000000 + x) = 49 :: padD 9 x.toNat := by
  rw [itoa_nn (by omega), ← dec_limb (by omega)]; congr 1; omega

theorem itoa_call (x : Int) (h0 : 0 ≤ x) (h1 : x < 1000000000) (w : World) (ht : Lib.TabIs Tryd.prog w "internal/strconv.uint64pow10" .u64 Lib.pow10Tab) :
    Calls Tryd.prog 40 #[.int .i64 (1000000000 + x)] w fun e w' => ∃ S : ByteArray, e = .returned (.string S) ∧ Hid (S = ⟨(49 :: padD 9 x.toNat).toArray⟩) ∧ S.size = 10 ∧ Below w.heap.size w w' := by
  refine (Tryd.strconv_Itoa (1000000000 + x) (by omega) (by omega) w ht).mono ?_
  rintro e w' ⟨rfl, k, os, rfl⟩
  refine ⟨_, rfl, ?_, ?_, grow_below' w k os⟩
  · rw [tail_bytes h0 h1]; rfl
  · rw [tail_bytes h0 h1]; show (49 :: padD 9 x.toNat).toArray.size = 10; simp [padD_length]
theorem tail_cells {S : ByteArray} {x : Nat} (hS : S = ⟨(49 :: padD 9 x).toArray⟩) : Lib.strCells (S.extract 1 10) = Lib.byteCells (padD 9 x) ∧ (S.extract 1 10).size = 9 := by
  subst hS
  have h : (ByteArray.extract ⟨(49 :: padD 9 x).toArray⟩ 1 10).data.toList = padD 9 x := by
    rw [ByteArray.data_extract]
    simp [List.take_of_length_le (Nat.le_of_eq (padD_length 9 x))]
  refine ⟨by unfold Lib.strCells Lib.byteCells; rw [h], ?_⟩
  show (ByteArray.extract ⟨(49 :: padD 9 x).toArray⟩ 1 10).data.size = 9
  rw [← Array.length_toList, h, padD_length]

set_option maxHeartbeats 1600000 in
theorem nat_Text (xs : List Int) (va : Value) (w : World) (ha : In w va xs) (ht : Tab w) :
    Calls Tryd.prog 18 #[va] w fun e w' => e = .returned (.tuple #[.string (textV xs), .int .i64 (oneE xs)]) ∧ Below w.heap.size w w' := by
  obtain ⟨A, c, rfl, hc, hm, hA⟩ := ha
  have HA := Lib.hid hA
  have hm1 : xs.length ≤ 9223372036854775807 := Nat.le_trans hc hm
  clear hA hm
  have fin : ∀ {s : ByteArray} {n : Int} {w' : World}, s = textV xs → n = oneE xs → Below w.heap.size w w' → Ending.returned (.tuple #[.string s, .int .i64 n]) = Ending.returned (.tuple #[.string (textV xs), .int .i64 (oneE xs)]) ∧ Below w.heap.size w w' := by
    rintro _ _ _ rfl rfl h; exact ⟨rfl, h⟩
  cases hx : validB xs with
  | false =>
    go_enter Tryd.func18, Tryd.ntmps18
    go_wp2_with fail
    refine (nat_Valid xs A c _ _ w HA.out hm1).mono ?_
    rintro e w' ⟨rfl, rfl⟩
    go_wp2_with fail
    go_ret2
    exact fin (by rw [textV, hx]; rfl) (by rw [oneE, hx]; rfl) (Below.refl _ _)
  | true =>
    have l1 := valid_len hx
    rcases Nat.eq_zero_or_pos xs.length with h0 | hp
    · have hnil : xs = [] := List.eq_nil_of_length_eq_zero h0
      subst hnil
      have hz : decS (nval []).toNat = ⟨#[48]⟩ := by show decS 0 = _; unfold decS; rw [Lib.decDigits_one (by decide)]; rfl
      have HZ := Lib.hid hz
      clear hz
      go_enter Tryd.func18, Tryd.ntmps18
      go_wp2_with fail
      refine (nat_Valid [] A c _ _ w HA.out hm1).mono ?_
      rintro e w' ⟨rfl, rfl⟩
      go_wp2_with fail
      go_ret2
      exact fin (by rw [textV, if_pos validB_nil, HZ.out]) (by rw [oneE, if_pos validB_nil]) (Below.refl _ _)
    · obtain ⟨z, hz⟩ : ∃ z, xs[xs.length - 1]? = some z := ⟨_, List.getElem?_eq_getElem (by omega)⟩
      obtain ⟨b, off, rfl, _, _, hcell⟩ := HA.out _ z hz
      have hzb := lok_at (valid_lok hx) hz
      have hst := text_start (valid_nrm hx) hz
      have hne : ((xs.length : Int) == 0) = false := beq_false_of_ne (by omega)
      have e1 : (xs.length : Int) - 1 = ((xs.length - 1 : Nat) : Int) := by omega
      have HN := Lib.hid (valid_nrm hx)
      have HZ := Lib.hid hz
      have HT := Lib.hid ht
      have HST := Lib.hid hst
      clear hz ht hst
      obtain ⟨z0, z1⟩ := hzb
      obtain ⟨i0, hi0, hz0, hz1, hz2⟩ := info_parts info_byte
      go_enter Tryd.func18, Tryd.ntmps18
      go_wp2_with fail
      refine (nat_Valid xs _ c _ _ w HA.out hm1).mono ?_
      rintro e w' ⟨rfl, rfl⟩
      go_wp2_with (go_at_call 39; refine (Tryd.strconv_AppendInt_10 w.heap.size 0 z (by omega) (by omega) (.slice none 0 0) [] w (World.ownsRow_nil _ _ _ _) (Nat.le_refl _) (by omega) HT.out).mono ?_; rintro e w1 ⟨v1, rfl, hown1, hnx1, -⟩; refine Hid.out ?_)
      refine Lib.hid ?_
      rw [Nat.zero_add, List.nil_append, HST.out] at hown1
      have hl0 : (Lib.decDigits (nval (xs.drop (xs.length - 1 - 0))).toNat).length ≤ 21 + 9 * 0 := by rw [← HST.out]; exact Lib.itoa_length_le z (by omega) (by omega)
      have HO1 := Lib.hid hown1
      have HB1 := Lib.hid hnx1
      have HL0 := Lib.hid hl0
      clear hown1 hnx1 hl0 hcell
      go_wp2_with fail
      go_loopw [5, 22] (fun v i wr => ∃ (k : Nat) (ds : List UInt8), k ≤ xs.length - 1 ∧ i = .int .i64 k ∧ ds = Lib.decDigits (nval (xs.drop (xs.length - 1 - k))).toNat ∧ ds.length ≤ 21 + 9 * k ∧
        wr.ownsRow w.heap.size 5 1 v ds.length (Lib.byteCells ds) ∧ Below w.heap.size w wr) (fun _ i _ => xs.length - (intOf i).toNat)
      case atStart => exact ⟨0, _, Nat.zero_le _, rfl, rfl, HL0.out, HO1.out, HB1.out⟩
      case round =>
        obtain ⟨k, ds, hk, rfl, hds, hdl, hown, hbel⟩ := hrel
        have HD := Lib.hid hds
        have HOW := Lib.hid hown
        have HBL := Lib.hid hbel
        clear hds hown hbel
        rcases Nat.lt_or_ge k (xs.length - 1) with hlt | hge
        · obtain ⟨j, hj⟩ : ∃ j, j = xs.length - 1 - 1 - k := ⟨_, rfl⟩
          obtain ⟨x, hx'⟩ : ∃ x, xs[j]? = some x := ⟨_, List.getElem?_eq_getElem (by omega)⟩
          obtain ⟨b2, off2, hA2, _, _, hcell2⟩ := (Holds.below HA.out HBL.out (Nat.le_refl _)) j x hx'
          cases hA2
          have hxb := lok_at (nrm_lok HN.out) hx'
          have hstep := text_step (x := x) HN.out hlt (by rw [← hj]; exact hx')
          have e2 : ((xs.length - 1 : Nat) : Int) - 1 - k = (j : Int) := by omega
          have hjl : j < xs.length := by omega
          have HSTEP := Lib.hid hstep
          have HTW := Lib.hid (HT.out.on HBL.out)
          clear hstep hj hx'
          obtain ⟨x0, x1⟩ := hxb
          have hklt : (k : Int) < ((xs.length - 1 : Nat) : Int) := by omega
          go_wp2_with (go_at_call 40; refine (itoa_call x x0 x1 wr HTW.out.here).mono ?_; rintro e w2 ⟨S, rfl, hS, hsz, hb2⟩; refine Hid.out ?_)
          refine Lib.hid ?_
          have hown2 := own_keep HOW.out hb2
          have hcc := tail_cells hS.out
          have HCC := Lib.hid hcc
          have HB2 := Lib.hid hb2
          have HOW2 := Lib.hid hown2
          clear hcc hown2 hb2
          have hl9 := HCC.out.2
          have c3 : ds.length + (S.extract 1 10).size ≤ maxLen := by rw [hl9]; unfold maxLen; omega
          have c4 : ds.length + (S.extract 1 10).size ≤ 140737488355328 := by rw [hl9]; omega
          have c5 : w.heap.size ≤ w2.heap.size := Nat.le_trans HBL.out.size HB2.out.size
          have C3 := Lib.hid c3
          have C4 := Lib.hid c4
          have C5 := Lib.hid c5
          clear c3 c4 c5 hl9
          go_wp2_with (first
            | (at_builtin; refine Lib.wpList_append_own_string _ rfl _ _ 44 9 rfl w.heap.size 5 i0 Tryd.underlying44 Tryd.underlying9 hi0 hz0 hz1 hz2 _ _ _ rfl HOW2.out _ rfl C3.out C4.out C5.out ?_; intro v' w3 hown' hgrow _; refine Hid.out ?_)
            | fail)
          refine Lib.hid ?_
          have hb3 : Below w.heap.size w w3 := ((HBL.out.trans (HB2.out.mono HBL.out.size))).grown hgrow C5.out (own_block_ge HOW2.out)
          have hcc := HCC.out
          rw [hcc.1, hcc.2] at hown'
          have hl1 : ds.length + 9 = (ds ++ padD 9 x.toNat).length := by rw [List.length_append, padD_length]
          have hl2 : Lib.byteCells ds ++ Lib.byteCells (padD 9 x.toNat) = Lib.byteCells (ds ++ padD 9 x.toNat) := by simp [Lib.byteCells]
          rw [hl1, hl2] at hown'
          have HOWN := Lib.hid hown'
          have HB3 := Lib.hid hb3
          clear hown' hb3 hgrow hcc hl1 hl2 hcell2
          go_wp2_with fail
          go_roundw
          case rel =>
            refine ⟨k + 1, _, by omega, by go_num, ?_, ?_, HOWN.out, HB3.out⟩
            · rw [HD.out, HSTEP.out]
            · rw [List.length_append, padD_length]; omega
          case measure => simp [intOf]; omega
        · obtain rfl : k = xs.length - 1 := by omega
          have hds := HD.out
          rw [Nat.sub_self, List.drop_zero] at hds
          have hpos : 0 < ds.length := by rw [hds, Lib.decDigits_length, Lib.nDigits]; split <;> omega
          have htx : (⟨ds.toArray⟩ : ByteArray) = textV xs := by rw [textV, if_pos hx, hds]; rfl
          have HTX := Lib.hid htx
          have hown := HOW.out
          clear htx hds
          rcases hown.2 with ⟨-, h0⟩ | ⟨g, cap, cur, rfl, -, -, -, -, -, -⟩
          · omega
          · have hcv := run_convert_bytes_back (P := Tryd.prog) wr 44 9 5 ⟨g, 0, none⟩ cap ds Tryd.underlying44 Tryd.underlying5 Tryd.underlying9 (fun j hj => hown.cells (g := g) rfl j _ (by simp [Lib.byteCells, hj]))
            clear hown
            go_wp2_with fail
            go_ret2
            exact fin HTX.out (by rw [oneE, if_pos hx]) HBL.out
#print axioms nat_Text
end Go.Proofs.YtmbpcjnlniidkaaDoor
