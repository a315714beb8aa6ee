/- Disjoint of the program. -/
import Derived.Test.YtccbnobpighckaaRectPG
namespace Go.Proofs.Ytccbnobpighckaa.Rect
open Go.ChangeShapes Go.WideShapes Go.RowKit Go.Lib Go.Proofs Go.Proofs.Ytccbnobpighckaa.Rw
set_option linter.unusedVariables false
set_option maxRecDepth 100000

/-- 's[k:]' of a list of rectangles that is read. -/
theorem slice_fromQ {w : World} {A : Option Addr} {n c : Nat} {L : List Rc} (h : Rcs w A L) (hn : n = L.length) (hc : n ≤ c) (k : Nat) (hk : k ≤ n) :
    ∃ A' c' m, m = (L.drop k).length ∧ (∀ W : World, (Instr.slice 32 (.slice A n c) (some (.int .i64 (k : Int))) none none).run Try.prog W = .ok (.slice A' m c') W) ∧ Rcs w A' (L.drop k) := by
  subst hn
  have ht : Try.prog.underlying 32 = some (.slice (Try.prog.elem 32)) := by kernel_rfl
  refine ⟨if c = k then A else A.map (·.add (k * 4)), c - k, L.length - k, List.length_drop.symm, fun W => ?_, fun j z hz => ?_⟩
  · have hs : (sizeOf (Try.prog.elem 32)).run Try.prog W = .ok 4 W := Try.sizeOf23 W
    rw [run_slice_l W 32 A L.length c ht .i64 k (by omega) (by omega), hs]
    simp [sliced, Result.andThen]
  · rw [List.getElem?_drop] at hz
    obtain ⟨b, off, rfl, hlt, hcell⟩ := h (k + j) z hz
    have := glt hz
    rw [if_neg (by omega)]
    refine ⟨b, off + k * 4, by simp [Addr.add_lit], hlt, fun i u hu => ?_⟩
    have := hcell i u hu
    rw [show off + k * 4 + (j * 4 + i) = off + ((k + j) * 4 + i) by omega]
    exact this
theorem pairs_step {E : List Rc} {k : Nat} {a : Rc} (ha : E[k]? = some a) (h : ∀ (i j : Nat) (x y : Rc), i < k → i < j → E[i]? = some x → E[j]? = some y → comB x y = false) (h2 : ∀ (j : Nat) (y : Rc), (E.drop (k + 1))[j]? = some y → comB a y = false) :
    ∀ (i j : Nat) (x y : Rc), i < k + 1 → i < j → E[i]? = some x → E[j]? = some y → comB x y = false := by
  intro i j x y hi hij hx hy
  rcases Nat.lt_or_eq_of_le (Nat.le_of_lt_succ hi) with hlt | rfl
  · exact h i j x y hlt hij hx hy
  · rw [ha] at hx; cases hx
    refine h2 (j - (i + 1)) y ?_
    rw [List.getElem?_drop, show i + 1 + (j - (i + 1)) = j by omega]
    exact hy
/-- What comes behind a rectangle that begins too late begins too late. -/
theorem pairs_far {E : List Rc} (hs : ∀ (i j : Nat) (a b : Rc), i < j → E[i]? = some a → E[j]? = some b → a.2.2.1 ≤ b.2.2.1) {k t : Nat} {a b : Rc} (hb : (E.drop (k + 1))[t]? = some b) (hf : a.2.2.2 ≤ b.2.2.1)
    (h : ∀ (j : Nat) (y : Rc), j < t → (E.drop (k + 1))[j]? = some y → comB a y = false) : ∀ (j : Nat) (y : Rc), (E.drop (k + 1))[j]? = some y → comB a y = false := by
  intro j y hy
  rcases Nat.lt_or_ge j t with hlt | hge
  · exact h j y hlt hy
  · rw [List.getElem?_drop] at hb hy
    refine com_far (Int.le_trans hf ?_)
    rcases Nat.lt_or_eq_of_le hge with h1 | h1
    · exact hs _ _ _ _ (by omega) hb hy
    · subst h1
      rw [hb] at hy; cases hy; exact Int.le_refl _
theorem dis_from {L E : List Rc} (hp : E.Perm (L.filter fun r => !(!ptB r))) {k : Nat} (hk : E.length ≤ k) (h : ∀ (i j : Nat) (x y : Rc), i < k → i < j → E[i]? = some x → E[j]? = some y → comB x y = false) : dis L = true :=
  (dis_perm hp).mpr (pair_yes fun i j a b hij ha hb => h i j a b (by have := glt ha; omega) hij ha hb)
theorem dis_hit {L E : List Rc} (hp : E.Perm (L.filter fun r => !(!ptB r))) {k j : Nat} {a b : Rc} (ha : E[k]? = some a) (hb : (E.drop (k + 1))[j]? = some b) (hc : comB a b = true) : dis L = false := by
  cases hd : dis L with
  | false => rfl
  | true =>
    rw [List.getElem?_drop] at hb
    exact absurd ((dis_perm hp).mp hd) (pair_no (by omega) ha hb hc)
set_option maxHeartbeats 3200000 in
theorem rect_Disjoint (L : List Rc) (A : Option Addr) (c n : Nat) (hn : n = L.length) (w : World) (ha : Rcs w A L) (hm : n ≤ 1000000) :
    Calls Try.prog 32 #[.slice A n c] w fun e w' => e = .returned (.bool (dis L)) ∧ Below w.heap.size w w' := by
  have HCl := Lib.hid (clone_rect L A n c hn w ha hm)
  have HM := Lib.hid hm
  have HN := Lib.hid hn
  obtain ⟨D, hD⟩ : ∃ D, dis L = D := ⟨_, rfl⟩
  rw [hD]
  have HD := Lib.hid hD
  clear ha hn hD
  go_enter Try.func32, Try.ntmps32
  go_wp2_with fail
  refine HCl.out.mono ?_
  rintro e w1 ⟨A1, c1, rfl, hr1, hb1⟩
  have B1 := Lib.hid hb1
  have HDe := Lib.hid (delete_rect prd_empty L A1 n c1 w.heap.size w1 hr1 hb1.size HM.out)
  clear hr1 hb1 HCl
  go_wp2_with fail
  refine HDe.out.mono ?_
  rintro e w2 ⟨m, c2, rfl, hr2, hb2⟩
  have B2 : Hid (Below w.heap.size w w2) := Lib.hid (B1.out.trans hb2)
  have hmm : m ≤ 1000000 := by
    obtain ⟨A0, c0, e0, -⟩ := hr2.one cQ_len
    have h1 := (Value.slice.inj e0).2.1
    have h2 := List.length_filter_le (fun r => !(!ptB r)) L
    have := HM.out
    have := HN.out
    omega
  have HSo := Lib.hid (sort_rect _ A1 m c2 w.heap.size w2 hr2 B2.out.size hmm)
  clear hr2 hb2 HDe hm
  go_wp2_with fail
  refine HSo.out.mono ?_
  rintro e w3 ⟨rfl, E, hEl, hmc, hpm, hso, hrd, hb3⟩
  have B3 : Hid (Below w.heap.size w w3) := Lib.hid (B2.out.trans hb3)
  have HEl := Lib.hid hEl
  have HMc := Lib.hid hmc
  have HPm := Lib.hid hpm
  have HSrt := Lib.hid hso
  have HR3 := Lib.hid hrd
  clear hb3 hEl hmc hpm hso hrd HSo
  go_wp2_with fail
  go_loopw [16] (fun i wr => ∃ k : Nat, k ≤ m ∧ i = .int .i64 k ∧ (∀ (i j : Nat) (x y : Rc), i < k → i < j → E[i]? = some x → E[j]? = some y → comB x y = false) ∧ Below w3.heap.size w3 wr) (fun i _ => m - (RowKit.intOf i).toNat)
  case atStart => exact ⟨0, Nat.zero_le _, rfl, fun i j x y h => absurd h (by omega), Below.refl _ _⟩
  case round =>
    obtain ⟨k, hk, rfl, hv, hbel⟩ := hrel
    have HV := Lib.hid hv
    have HB := Lib.hid hbel
    clear hv hbel
    rcases Nat.lt_or_ge k m with hlt | hge
    · obtain ⟨a, hak⟩ := get_lt (L := E) (k := k) (by have := HEl.out; omega)
      obtain ⟨At, ct, mt, hmt, hsl, hrt⟩ := slice_fromQ HR3.out HEl.out.symm HMc.out (k + 1) hlt
      obtain ⟨b, off, rfl, hb, e0, e1, e2, e3⟩ := rd_at (HR3.out.on HB.out) hak
      have i1 : (k : Int) < (m : Int) := by omega
      have i2 : (0 : Int) ≤ (k : Int) := by omega
      have wk : IntKind.i64.wrap ((k : Int) + 1) = (k : Int) + 1 := wrap_id (by omega)
      have hsl2 : ∀ W : World, (Instr.slice 32 (.slice (some ⟨b, off, none⟩) m c2) (some (.int .i64 ((k : Int) + 1))) none none).run Try.prog W = .ok (.slice At mt ct) W := fun W => by
        have := hsl W
        rw [show ((k + 1 : Nat) : Int) = (k : Int) + 1 by omega] at this
        exact this
      have HAk := Lib.hid hak
      have HMt := Lib.hid hmt
      have HRt := Lib.hid hrt
      have hmtl : mt ≤ 1000000 := by rw [hmt, List.length_drop]; have := HEl.out; omega
      clear hak hmt hrt hsl
      obtain ⟨wq, rfl⟩ : ∃ W, W = wr := ⟨wr, rfl⟩
      go_upto_region 6 with fail
      obtain ⟨w4, hw4⟩ : ∃ W, wq.alloc (.cells #[.int .i64 a.1, .int .i64 a.2.1, .int .i64 a.2.2.1, .int .i64 a.2.2.2] 23) = W := ⟨_, rfl⟩
      have E4 : Hid (Cel w4 wq.heap.size (cQ a)) := hw4 ▸ Cel.new wq (cQ a) _
      have B4 : Hid (Below w3.heap.size w3 w4) := hw4 ▸ bstep HB.out (below_alloc _ _)
      rw [hw4]
      clear hw4 e0 e1 e2 e3
      obtain ⟨h, hh⟩ : ∃ h, wq.heap.size = h := ⟨_, rfl⟩
      rw [hh] at E4 ⊢
      clear hh
      go_wp2_with fail
      go_loopw [26] (fun i wr => ∃ t : Nat, t ≤ mt ∧ i = .int .i64 t ∧ (∀ (j : Nat) (y : Rc), j < t → (E.drop (k + 1))[j]? = some y → comB a y = false) ∧ Cel wr h (cQ a) ∧ Below w3.heap.size w3 wr) (fun i _ => mt - (RowKit.intOf i).toNat)
      case atStart => exact ⟨0, Nat.zero_le _, rfl, fun j y h => absurd h (by omega), E4.out, B4.out⟩
      case round =>
        obtain ⟨t, ht, rfl, hv, hcel, hbel⟩ := hrel
        have HT := Lib.hid hv
        have HC := Lib.hid hcel
        have HB5 := Lib.hid hbel
        clear hv hcel hbel
        rcases Nat.lt_or_ge t mt with hlt2 | hge2
        · obtain ⟨y, hy⟩ := get_lt (L := E.drop (k + 1)) (k := t) (by have := HMt.out; omega)
          obtain ⟨b2, off2, rfl, hbb, e0, e1, e2, e3⟩ := rd_at (HRt.out.on HB5.out) hy
          have j1 : (t : Int) < (mt : Int) := by omega
          have j2 : (0 : Int) ≤ (t : Int) := by omega
          have HY := Lib.hid hy
          clear hy
          obtain ⟨wp, rfl⟩ : ∃ W, W = wr := ⟨wr, rfl⟩
          go_upto_region 9 with fail
          obtain ⟨w5, hw5⟩ : ∃ W, wp.alloc (.cells #[.int .i64 y.1, .int .i64 y.2.1, .int .i64 y.2.2.1, .int .i64 y.2.2.2] 23) = W := ⟨_, rfl⟩
          have E5 : Hid (Cel w5 wp.heap.size (cQ y)) := hw5 ▸ Cel.new wp (cQ y) _
          have hb5 : Below wp.heap.size wp w5 := hw5 ▸ below_alloc _ _
          rw [hw5]
          clear hw5 e0 e1 e2 e3
          have C5 := Lib.hid (HC.out.on hb5)
          have B5 := Lib.hid (bstep HB5.out hb5)
          clear hb5
          obtain ⟨g, hg⟩ : ∃ g, wp.heap.size = g := ⟨_, rfl⟩
          rw [hg] at E5 ⊢
          clear hg
          obtain ⟨x0, x1, x2, x3⟩ := cel4 C5.out
          obtain ⟨y0, y1, y2, y3⟩ := cel4 E5.out
          rcases Int.lt_or_le y.2.2.1 a.2.2.2 with hfar | hfar
          · have d0 : decide (a.2.2.2 ≤ y.2.2.1) = false := decide_eq_false (by omega)
            have HCm := Lib.hid (rect_Common a y w5)
            unfold ComP at HCm
            obtain ⟨q, hq⟩ : ∃ q, comB a y = q := ⟨_, rfl⟩
            obtain ⟨V, hV⟩ : ∃ V, comV a y = V := ⟨_, rfl⟩
            rw [hq, hV] at HCm
            have HQ := Lib.hid hq
            clear hq hV hfar
            go_wp2_with fail
            refine HCm.out.mono ?_
            rintro e w6 ⟨rfl, hb6⟩
            have B6 := Lib.hid (bstep B5.out hb6)
            have C6 := Lib.hid (C5.out.on hb6)
            clear hb6 x0 x1 x2 x3 y0 y1 y2 y3
            go_upto_region 11 with fail
            obtain ⟨w7, hw7⟩ : ∃ W, w6.alloc (.cells #[.int .i64 V.1, .int .i64 V.2.1, .int .i64 V.2.2.1, .int .i64 V.2.2.2] 23) = W := ⟨_, rfl⟩
            have B7 : Hid (Below w3.heap.size w3 w7) := hw7 ▸ bstep B6.out (below_alloc _ _)
            have C7 : Hid (Cel w7 h (cQ a)) := hw7 ▸ C6.out.alloc _
            rw [hw7]
            clear hw7
            cases q with
            | false =>
              go_wp2_with fail
              go_roundw
              case rel =>
                refine ⟨t + 1, by omega, by go_num, ?_, C7.out, B7.out⟩
                intro j z hj hz
                rcases Nat.lt_or_eq_of_le (Nat.le_of_lt_succ hj) with h1 | h1
                · exact HT.out j z h1 hz
                · subst h1
                  have e := HY.out
                  rw [hz] at e; cases e; exact HQ.out
              case measure => simp [RowKit.intOf]; omega
            | true =>
              have HF : Hid (D = false) := Lib.hid (HD.out.symm.trans (dis_hit HPm.out HAk.out HY.out HQ.out))
              go_wp2_with fail
              go_ret
              exact ⟨ret_bool HF.out.symm, bstep B3.out B7.out⟩
          · have d0 : decide (a.2.2.2 ≤ y.2.2.1) = true := decide_eq_true hfar
            have HF := Lib.hid (pairs_step HAk.out HV.out (pairs_far HSrt.out HY.out hfar HT.out))
            clear hfar
            go_wp2_with fail
            go_roundw
            case rel => exact ⟨k + 1, by omega, by go_num, HF.out, B5.out⟩
            case measure => simp [RowKit.intOf]; omega
        · obtain rfl : t = mt := by omega
          have HF := Lib.hid (pairs_step HAk.out HV.out fun j z hz => HT.out j z (by have := glt hz; have := HMt.out; omega) hz)
          go_wp2_with fail
          go_roundw
          case rel => exact ⟨k + 1, by omega, by go_num, HF.out, HB5.out⟩
          case measure => simp [RowKit.intOf]; omega
    · obtain rfl : k = m := by omega
      have HF : Hid (D = true) := Lib.hid (HD.out.symm.trans (dis_from HPm.out (by rw [HEl.out]; exact Nat.le_refl _) HV.out))
      go_wp2_with fail
      go_ret
      exact ⟨ret_bool HF.out.symm, bstep B3.out HB.out⟩
#print axioms rect_Disjoint
end Go.Proofs.Ytccbnobpighckaa.Rect
