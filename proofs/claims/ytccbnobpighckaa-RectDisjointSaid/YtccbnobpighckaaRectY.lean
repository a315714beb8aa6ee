/- RectDisjoint -/
import Derived.Test.YtccbnobpighckaaRectQ
import Derived.Test.YtccbnobpighckaaRectV
import Derived.Test.YtccbnobpighckaaRectX
namespace Go.Proofs.Ytccbnobpighckaa.Rect
open Go.ChangeShapes Go.WideShapes Go.RowKit Go.Lib Go.Proofs.Ytccbnobpighckaa.Rw
open Go.Proofs.Ytccbnobpighckaa.Span (hasB hasB_iff IsNf Nrm Sps inS inS_iff)
set_option linter.unusedVariables false
set_option maxRecDepth 100000

theorem err_zero {L : List Rc} (h : L.length ≤ 40) (hz : ¬ lsE L = 0) : lsE L = 1 ∧ cvV L = 0 := by
  refine ⟨?_, if_neg hz⟩
  unfold lsE at hz ⊢
  rw [if_neg (by omega)] at hz ⊢
  split at hz
  · exact absurd rfl hz
  · rename_i k; rw [if_neg k]
/-- What the walk of RectDisjoint asks. -/
theorem dis_fact {L : List Rc} (h : lsE L = 0) : cvV L ≤ sumA L ∧ dis L = decide (cvV L = sumA L) := by
  have hv : cvV L = cv L := by unfold cvV; rw [if_pos h]
  have ho := (lsE_of h).2
  rw [hv]
  exact ⟨cv_sum ho, dis_sum ho⟩

set_option maxHeartbeats 6400000 in
theorem walk_RectDisjoint (w : World) (A : Option Addr) (c : Nat) (L : List Rc) (ha : Rcs w A L) (hcap : L.length ≤ c) (hm : L.length ≤ 9223372036854775807) :
    Calls Try.prog 9 #[.slice A L.length c] w fun e w' => e = .returned (.bool true) ∧ Below w.heap.size w w' := by
  have HA := Lib.hid ha
  clear ha hcap
  have K1 := Lib.hid fun (W : World) (h : Rcs W A L) => rect_Cover L A c W h hm
  have K2 := Lib.hid fun (W : World) (h : Rcs W A L) (hl : L.length ≤ 1000000) => rect_Disjoint L A c _ rfl W h hl
  by_cases hf : (40 : Int) < (L.length : Int)
  · skip
    go_enter Try.func9, Try.ntmps9
    go_wp2_with fail
    refine (law_awake w).mono ?_
    rintro e w1_ ⟨rfl, hb⟩
    have B1 := Lib.hid hb
    clear hb
    go_wp2_with fail
    go_ret
    exact ⟨rfl, B1.out⟩
  have HL6 : Hid (L.length ≤ 1000000) := Lib.hid (by omega)
  have HD := Lib.hid (dis_fact (L := L))
  have HE := Lib.hid (err_zero (L := L) (by omega))
  have HO := Lib.hid (lsE_of (L := L))
  obtain ⟨C, hC⟩ : ∃ x, cvV L = x := ⟨_, rfl⟩
  obtain ⟨E, hE⟩ : ∃ x, lsE L = x := ⟨_, rfl⟩
  obtain ⟨D, hD'⟩ : ∃ x, dis L = x := ⟨_, rfl⟩
  rw [hC, hD', hE] at HD
  rw [hC, hE] at HE
  rw [hE] at HO
  rw [hC, hE] at K1
  rw [hD'] at K2
  clear hC hE hD'
  go_enter Try.func9, Try.ntmps9
  go_wp2_with fail
  refine (K1.out w HA.out).mono ?_
  rintro e w1_ ⟨rfl, hb⟩
  have B1 := Lib.hid hb
  replace HA := Lib.hid (HA.out.on hb)
  clear hb
  by_cases hz : E = 0
  rotate_left
  · obtain ⟨rfl, rfl⟩ := HE.out hz
    go_wp2_with fail
    refine (law_awake w1_).mono ?_
    rintro e w2_ ⟨rfl, hb⟩
    have B2 := Lib.hid (bstep B1.out hb)
    replace HA := Lib.hid (HA.out.on hb)
    clear hb
    go_wp2_with fail
    go_ret
    exact ⟨rfl, B2.out⟩
  subst hz
  obtain ⟨hle, hdd⟩ := HD.out rfl
  have HCk := Lib.hid (HO.out rfl).2
  have HDD := Lib.hid hdd
  clear hdd
  have HL := Lib.hid hle
  clear hle
  go_wp2_with fail
  go_loopw [5, 6] (fun sv iv wr => ∃ k : Nat, k ≤ L.length ∧ iv = .int .i64 k ∧ sv = .int .i64 (sumA (L.take k)) ∧ Below w.heap.size w wr ∧ Below w1_.heap.size w1_ wr) (fun _ i _ => L.length - (RowKit.intOf i).toNat)
  case atStart => exact ⟨0, Nat.zero_le _, rfl, rfl, B1.out, Below.refl _ _⟩
  case round =>
    obtain ⟨k, hk, rfl, rfl, hbel, hbe2⟩ := hrel
    have HB := Lib.hid hbel
    have HA2 := Lib.hid (HA.out.on hbe2)
    have HB2 := Lib.hid hbe2
    clear hbel hbe2
    rcases Nat.lt_or_ge k L.length with hlt | hge
    · obtain ⟨s, hs⟩ := get_lt hlt
      obtain ⟨b, off, rfl, hb, h0, h1, h2, h3⟩ := rd_at HA2.out hs
      have hck := HCk.out s (List.mem_of_getElem? hs)
      have hlim := sumA_lim (L := L.take k) fun r hr => HCk.out r (List.mem_of_mem_take hr)
      rw [List.length_take, Nat.min_eq_left hk] at hlim
      have hs1 := siz_pos hck
      have hs2 := siz_le hck
      have ev : arV s = siz s := by unfold arV; rw [if_pos (ckE_iff.mpr hck)]
      have KA := Lib.hid fun W => rect_Area s W
      rw [ckE_iff.mpr hck, ev] at KA
      have hnx : sumA (L.take (k + 1)) = sumA (L.take k) + siz s := by rw [take_snoc_of hs, sumA_snoc]
      have HN := Lib.hid hnx
      obtain ⟨S, hS⟩ : ∃ x, sumA (L.take k) = x := ⟨_, rfl⟩
      obtain ⟨Z, hZ⟩ : ∃ x, siz s = x := ⟨_, rfl⟩
      rw [hS] at hlim HN ⊢
      rw [hZ] at hs1 hs2 HN KA
      clear hS hZ ev hck hnx hs
      have i1 : (k : Int) < (L.length : Int) := by omega
      have i2 : (0 : Int) ≤ (k : Int) := by omega
      go_wp2_with fail
      refine (KA.out wr).mono ?_
      rintro e w1 ⟨rfl, hb1⟩
      have HB1 := Lib.hid (HB.out.trans (hb1.mono HB.out.size))
      have HC1 := Lib.hid (HB2.out.trans (hb1.mono HB2.out.size))
      clear hb1 h0 h1 h2 h3
      go_wp2_with fail
      go_roundw
      case rel => exact ⟨k + 1, by omega, by go_num, by rw [HN.out], HB1.out, HC1.out⟩
      case measure => simp [RowKit.intOf]; omega
    · obtain rfl : k = L.length := by omega
      rw [List.take_length]
      obtain ⟨S, hS⟩ : ∃ x, sumA L = x := ⟨_, rfl⟩
      rw [hS] at HL HDD ⊢
      have hle := HL.out
      have hdd := HDD.out
      clear hS
      by_cases hq : C = S
      · subst hq
        obtain rfl : D = true := by simpa using hdd
        clear hdd
        go_wp2_with fail
        refine (K2.out wr HA2.out HL6.out).mono ?_
        rintro e w1 ⟨rfl, hb1⟩
        have HB1 := Lib.hid (bstep HB.out hb1)
        clear hb1
        go_wp2_with fail
        refine (law_awake w1).mono ?_
        rintro e w2 ⟨rfl, hb1⟩
        have HB2 := Lib.hid (bstep HB1.out hb1)
        clear hb1
        go_wp2_with fail
        go_ret
        exact ⟨rfl, HB2.out⟩
      · obtain rfl : D = false := by rw [hdd]; exact decide_eq_false hq
        have hqd : (C == S) = false := beq_false_of_ne hq
        clear hdd
        go_wp2_with fail
        refine (K2.out wr HA2.out HL6.out).mono ?_
        rintro e w1 ⟨rfl, hb1⟩
        have HB1 := Lib.hid (bstep HB.out hb1)
        clear hb1
        go_wp2_with fail
        refine (law_awake w1).mono ?_
        rintro e w2 ⟨rfl, hb1⟩
        have HB2 := Lib.hid (bstep HB1.out hb1)
        clear hb1
        go_wp2_with fail
        go_ret
        exact ⟨rfl, HB2.out⟩
#print axioms walk_RectDisjoint
end Go.Proofs.Ytccbnobpighckaa.Rect
