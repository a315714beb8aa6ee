/- Several texts in one: RatY, RatZ, MemA, RowA. -/
import Derived.Test.YtgmlccjjhmhgbaaPk15
import Derived.Test.YtgmlccjjhmhgbaaRows
import Derived.WalkKit
import Derived.WalkLawsBesides
import Derived.WalkSpells
import Derived.Outline
import Derived.Laws.OwnMore
import Derived.Laws.CopyOwn
import Derived.OwnWalk
import Derived.Deep.QuietTactic
import Derived.BigQuiet
import Derived.Laws.StructEq
import Derived.Laws.AppendOwnNone
import Derived.Laws.EntriesVeiled
import Derived.Deep.AppendLies
import Derived.Deep.RegionLaw
import Derived.Deep.RegionHeld3
import Derived.Deep.Cut
import Derived.Deep.CutRange
import Derived.Shelf.Abstract
import Derived.Lib.Hide
import Derived.StillTailTactics
import Derived.Maps.AppendAt
import Derived.Defers
import Derived.Recover
/- Lists of rational numbers in memory; their sums. The contract of rat.Sum. -/
namespace Go.Proofs.Ytgmlccjjhmhgbaa
open Go.ChangeShapes Go.WideShapes Go.RowKit
set_option linter.unusedVariables false
set_option maxRecDepth 100000

/-- A sign and two lists of limbs. -/
abbrev Trip := Bool × List Int × List Int
def vT (t : Trip) : Bool := valR t.1 t.2.1 t.2.2
def rT (t : Trip) : Rat := ratV t.1 t.2.1 t.2.2
/-- At the address lie the numbers L. -/
def Rats (w : World) (A : Option Addr) (L : List Trip) : Prop :=
  ∀ (k : Nat) (t : Trip), L[k]? = some t → ∃ b off A1 c1 A2 c2, A = some ⟨b, off, none⟩ ∧ b < w.heap.size ∧
    (w.cell? ⟨b, off + k * 3, none⟩ = some (.bool t.1) ∧ w.cell? ⟨b, off + k * 3 + 1, none⟩ = some (.slice A1 t.2.1.length c1) ∧ w.cell? ⟨b, off + k * 3 + 2, none⟩ = some (.slice A2 t.2.2.length c2)) ∧
    In w (.slice A1 t.2.1.length c1) t.2.1 ∧ In w (.slice A2 t.2.2.length c2) t.2.2
theorem Rats.on {w w' : World} {A : Option Addr} {L : List Trip} (h : Rats w A L) (hb : Below w.heap.size w w') : Rats w' A L := by
  intro k t hk
  obtain ⟨b, off, A1, c1, A2, c2, e, hlt, ⟨h0, h1, h2⟩, i1, i2⟩ := h k t hk
  exact ⟨b, off, A1, c1, A2, c2, e, Nat.lt_of_lt_of_le hlt hb.size, ⟨(hb.cell (p := ⟨b, off + k * 3, none⟩) hlt).trans h0, (hb.cell (p := ⟨b, off + k * 3 + 1, none⟩) hlt).trans h1, (hb.cell (p := ⟨b, off + k * 3 + 2, none⟩) hlt).trans h2⟩, i1.on hb, i2.on hb⟩

/-- The sum from s on, element by element; none where an addition does not fit. -/
def tot : List Rat → Rat → Option Rat
  | [], s => some s
  | a :: l, s => if sumOk s a then tot l (s + a) else none
def sumE (L : List Trip) : Int := if 4096 < L.length then 8 else if L.all vT then (if (tot (L.map rT) 0).isSome then 0 else 2) else 3
def sumV (L : List Trip) : Rat := (tot (L.map rT) 0).getD 0
theorem sumE_full {L : List Trip} (h : 4096 < L.length) : sumE L = 8 := if_pos h
theorem sumE_form {L : List Trip} (h : ¬ 4096 < L.length) (h2 : L.all vT = false) : sumE L = 3 := by unfold sumE; rw [if_neg h, h2]; rfl
theorem sumE_over {L : List Trip} (h : ¬ 4096 < L.length) (h2 : L.all vT = true) (h3 : tot (L.map rT) 0 = none) : sumE L = 2 := by unfold sumE; rw [if_neg h, h2, h3]; rfl
theorem sumE_ok {L : List Trip} {r : Rat} (h : ¬ 4096 < L.length) (h2 : L.all vT = true) (h3 : tot (L.map rT) 0 = some r) : sumE L = 0 ∧ sumV L = r := by unfold sumE sumV; rw [if_neg h, h2, h3]; exact ⟨rfl, rfl⟩
theorem all_false {L : List Trip} {k : Nat} {t : Trip} (h : L[k]? = some t) (hv : vT t = false) : L.all vT = false := by
  rw [List.all_eq_false]; exact ⟨t, List.mem_of_getElem? h, by simpa using hv⟩
theorem all_true {L : List Trip} (h : ∀ (k : Nat) (t : Trip), L[k]? = some t → vT t = true) : L.all vT = true := by
  rw [List.all_eq_true]
  intro t ht
  obtain ⟨k, hk⟩ := List.mem_iff_getElem?.mp ht
  exact h k t hk
theorem all_at {L : List Trip} (h : L.all vT = true) {k : Nat} {t : Trip} (hk : L[k]? = some t) : vT t = true := by
  rw [List.all_eq_true] at h; exact h t (List.mem_of_getElem? hk)
theorem tot_step {L : List Trip} {k : Nat} {t : Trip} {s : Rat} (hk : L[k]? = some t) : tot ((L.drop k).map rT) s = if sumOk s (rT t) then tot ((L.drop (k + 1)).map rT) (s + rT t) else none := by
  have hlt : k < L.length := by
    rcases Nat.lt_or_ge k L.length with h | h
    · exact h
    · rw [List.getElem?_eq_none h] at hk; cases hk
  have e : L[k] = t := by rw [List.getElem?_eq_getElem hlt] at hk; exact Option.some.inj hk
  rw [List.drop_eq_getElem_cons hlt, e]; rfl
theorem tot_end {L : List Trip} {s : Rat} : tot ((L.drop L.length).map rT) s = some s := by rw [List.drop_length]; rfl
theorem fit_sum {r s : Rat} (hr : fitR r = true) (hs : fitR s = true) (h : sumOk r s = true) : fitR (r + s) = true := by
  rw [sumOk_eq, Bool.and_eq_true, Bool.and_eq_true] at h
  obtain ⟨h1, h2, h3⟩ := h
  rw [← add_form]
  exact mk_fit (sMag_lt (prOk_parts h1).1 (prOk_parts h1).2 h3) (of_decide_eq_true h2) (Nat.mul_ne_zero r.den_nz s.den_nz)
theorem fit_zero : fitR 0 = true := by rw [fitR_iff]; exact ⟨big48_pos, small48 (by decide)⟩
theorem mkV_zero : mkV 0 1 = 0 := by decide +kernel
theorem mkE_zero : mkE 0 1 = 0 := by decide
/-- A valid number is the form of its value. -/
theorem trip_form {t : Trip} (h : vT t = true) : fitR (rT t) = true ∧ t.1 = negR (rT t) ∧ t.2.1 = topL (rT t) ∧ t.2.2 = botL (rT t) := by
  obtain ⟨b, xs, ys⟩ := t
  obtain ⟨r, hr, h1, h2, h3⟩ := val_form h
  have e : rT (b, xs, ys) = r := by unfold rT; rw [h1, h2, h3]; exact (form_val hr).2
  rw [e]; exact ⟨hr, h1, h2, h3⟩
theorem trip_is {w : World} {v : Value} {t : Trip} (h : vT t = true) (hi : InR w v t.1 t.2.1 t.2.2) : IsR w v (rT t) := by
  obtain ⟨_, h1, h2, h3⟩ := trip_form h
  unfold IsR; rw [← h1, ← h2, ← h3]; exact hi

/-- What holds at the head of the loop that adds. -/
def SumInv (w wr : World) (g gs : Nat) (r : Rat) : Prop :=
  (Below w.heap.size w wr ∧ w.heap.size ≤ gs ∧ g ≠ gs) ∧ Cel wr g (.bool false) (.slice none 0 0) (.slice none 0 0) ∧
  ∃ b A1 n1 d1 A2 n2 d2, Cel wr gs (.bool b) (.slice A1 n1 d1) (.slice A2 n2 d2) ∧ IsR wr (.agg #[.bool b, .slice A1 n1 d1, .slice A2 n2 d2]) r
theorem OutR.zero {w : World} {v : Value} {err : Int} {r : Rat} (h : err = 0) (ho : OutR w v err r) : IsR w v r := by unfold OutR at ho; rw [if_pos h] at ho; exact ho

set_option maxHeartbeats 3200000 in
theorem rat_Sum (L : List Trip) (A : Option Addr) (c : Nat) (w : World) (ha : Rats w A L) (hm : L.length ≤ 9223372036854775807) :
    Calls Try.prog 23 #[.slice A L.length c] w (RRes w (sumE L) (sumV L)) := by
  have HA := Lib.hid ha
  have HC := Lib.hid (Cel.new w (.bool false) (.slice none 0 0) (.slice none 0 0) 33)
  clear ha
  by_cases hf : 4096 < L.length
  · have hf' : (4096 : Int) < (L.length : Int) := by omega
    have HF := Lib.hid (sumE_full hf)
    clear hf
    go_enter Try.func23, Try.ntmps23
    go_wp2_with fail
    refine bodyPost_ret (v := .tuple #[.agg #[.bool false, .slice none 0 0, .slice none 0 0], .int .i64 8]) (by simp [results, Try.results23, go_sem]) rfl ?_
    rw [HF.out]
    exact ⟨_, rfl, OutR.no (by decide), below_alloc _ _⟩
  · have hf' : decide ((4096 : Int) < (L.length : Int)) = false := decide_eq_false (by omega)
    have hf2 : decide (4096 < L.length) = false := decide_eq_false (by omega)
    have HF := Lib.hid hf
    clear hf
    go_enter Try.func23, Try.ntmps23
    go_wp2_with fail
    obtain ⟨w0, hw0⟩ : ∃ w0, w0 = w.alloc (.cells #[.bool false, .slice none 0 0, .slice none 0 0] 33) := ⟨_, rfl⟩
    rw [← hw0] at HC ⊢
    have hz0 : w.heap.size + 1 ≤ w0.heap.size := by rw [hw0]; simp
    have HB0 : Hid (Below w.heap.size w w0) := by rw [hw0]; exact below_alloc _ _
    clear hw0
    go_loopw [16] (fun i wr => ∃ k : Nat, k ≤ L.length ∧ i = .int .i64 k ∧ (∀ j t, j < k → L[j]? = some t → vT t = true) ∧ Below w0.heap.size w0 wr) (fun i _ => L.length - (intOf i).toNat)
    case atStart => exact ⟨0, Nat.zero_le _, rfl, fun j t h => absurd h (by omega), Below.refl _ _⟩
    case round =>
      obtain ⟨k, hk, rfl, hv, hbel⟩ := hrel
      have HV := Lib.hid hv
      have HB := Lib.hid hbel
      have hzr : w0.heap.size ≤ wr.heap.size := hbel.size
      have HBW : Hid (Below w.heap.size w wr) := HB0.out.trans (hbel.mono (by omega))
      have HCR := Lib.hid (HC.out.on hbel)
      clear hv hbel
      rcases Nat.lt_or_ge k L.length with hlt | hge
      · obtain ⟨t, ht⟩ : ∃ t, L[k]? = some t := ⟨_, List.getElem?_eq_getElem hlt⟩
        obtain ⟨b, off, A1, c1, A2, c2, rfl, hbl, ⟨k0, k1, k2⟩, i1, i2⟩ := HA.out.on HBW.out k t ht
        have HT := Lib.hid ht
        have HI := Lib.hid (show InR wr (.agg #[.bool t.1, .slice A1 t.2.1.length c1, .slice A2 t.2.2.length c2]) t.1 t.2.1 t.2.2 from ⟨_, _, rfl, i1, i2⟩)
        clear ht i1 i2
        go_wp2_with fail
        refine (rat_Valid _ t.1 t.2.1 t.2.2 _ (HI.out.on (below_alloc _ _))).mono ?_
        rintro e w1 ⟨rfl, hb1⟩
        have hbw1 := (below_alloc wr (.cells #[.bool t.1, .slice A1 t.2.1.length c1, .slice A2 t.2.2.length c2] 33)).trans (hb1.mono (by simp))
        have HB1 := Lib.hid hbw1
        have hz1 : wr.heap.size ≤ w1.heap.size := hbw1.size
        have HC1 := Lib.hid (HCR.out.on hbw1)
        clear hb1 hbw1
        cases hvt : valR t.1 t.2.1 t.2.2 with
        | false =>
          have HE := Lib.hid (sumE_form HF.out (all_false HT.out hvt))
          obtain ⟨⟨r0, r1, r2⟩, s0, s1, s2⟩ := HC1.out
          clear hvt k0 k1 k2
          go_wp2_with fail
          obtain ⟨⟨z0, z1, z2⟩, -⟩ := HC1.out.put3 (.bool false) (.slice none 0 0) (.slice none 0 0)
          simp only [put3] at z0 z1 z2
          refine bodyPost_ret (v := .tuple #[.agg #[.bool false, .slice none 0 0, .slice none 0 0], .int .i64 3]) (by simp [results, Try.results23, go_sem, z0, z1, z2]) rfl ?_
          rw [HE.out]
          exact ⟨_, rfl, OutR.no (by decide), below_put3 (HBW.out.trans (HB1.out.mono (by omega))) (g := w.heap.size) (by omega) _ _ _⟩
        | true =>
          have HVT := Lib.hid hvt
          clear hvt k0 k1 k2
          go_wp2_with fail
          go_roundw
          case rel =>
            refine ⟨k + 1, by omega, by go_num, ?_, bstep HB.out HB1.out⟩
            intro j u hj hu
            rcases Nat.lt_or_eq_of_le (Nat.le_of_lt_succ hj) with h | h
            · exact HV.out j u h hu
            · subst h
              have e := HT.out
              rw [hu] at e; cases e; exact HVT.out
          case measure => simp [intOf]; omega
      · obtain rfl : k = L.length := by omega
        have HALL := Lib.hid (all_true (L := L) fun j u hu => HV.out j u (by rcases Nat.lt_or_ge j L.length with h | h; exact h; rw [List.getElem?_eq_none h] at hu; cases hu) hu)
        go_wp2_with fail
        refine (rat_Of 0 _ (by decide) (by decide)).mono ?_
        rw [mkE_zero, mkV_zero]
        rintro e w1 h1
        obtain ⟨b1, A1, n1, d1, A2, n2, d2, rfl, ho, hb1⟩ := h1.open_
        have HC1 := Lib.hid (HCR.out.on hb1)
        have hz1 : wr.heap.size ≤ w1.heap.size := hb1.size
        have HB1 : Hid (Below w.heap.size w w1) := HBW.out.trans (hb1.mono (by omega))
        have HO := Lib.hid ho
        clear h1 ho hb1
        go_wp2_with fail
        obtain ⟨w3, hw3⟩ : ∃ w3, w3 = w1.alloc (.cells #[.bool b1, .slice A1 n1 d1, .slice A2 n2 d2] 33) := ⟨_, rfl⟩
        rw [← hw3]
        have HI3 : Hid (SumInv w w3 w.heap.size w1.heap.size 0) := by
          rw [hw3]
          exact ⟨⟨HB1.out.alloc (by omega) _, by omega, by omega⟩, HC1.out.alloc _, b1, A1, n1, d1, A2, n2, d2, Cel.new _ _ _ _ _, (OutR.zero rfl HO.out).on (below_alloc _ _)⟩
        obtain ⟨gs, hgs⟩ : ∃ gs, gs = w1.heap.size := ⟨_, rfl⟩
        rw [← hgs] at HI3 ⊢
        clear hw3 hgs hz1 hzr
        obtain ⟨wo, rfl⟩ : ∃ wo : World, wo = wr := ⟨_, rfl⟩
        go_loopw [31] (fun i wr => ∃ (k : Nat) (r : Rat), k ≤ L.length ∧ i = .int .i64 k ∧ (fitR r = true ∧ tot ((L.drop k).map rT) r = tot (L.map rT) 0) ∧ SumInv w wr w.heap.size gs r) (fun i _ => L.length - (intOf i).toNat)
        case atStart => exact ⟨0, 0, Nat.zero_le _, rfl, ⟨fit_zero, rfl⟩, HI3.out⟩
        case round =>
          obtain ⟨k, r, hk, rfl, ⟨hfr, htot⟩, ⟨hbx, hg1, hg2⟩, hcx, b2, A3, n3, d3, A4, n4, d4, hcs, his⟩ := hrel
          have HFR := Lib.hid hfr
          have HTOT := Lib.hid htot
          have HBX := Lib.hid hbx
          have HCX := Lib.hid hcx
          have HCS := Lib.hid hcs
          have HIS := Lib.hid his
          have hgl : gs < wr.heap.size := hcs.lt
          have hwl : w.heap.size < wr.heap.size := hcx.lt
          obtain ⟨⟨s0, s1, s2⟩, -⟩ := hcs
          clear hfr htot hbx hcx his
          rcases Nat.lt_or_ge k L.length with hlt | hge
          · obtain ⟨t, ht⟩ : ∃ t, L[k]? = some t := ⟨_, List.getElem?_eq_getElem hlt⟩
            obtain ⟨b, off, A5, c5, A6, c6, rfl, hbl, ⟨k0, k1, k2⟩, i1, i2⟩ := HA.out.on HBX.out k t ht
            have HVT := Lib.hid (all_at HALL.out ht)
            have HST := Lib.hid (tot_step (s := r) ht)
            have HI := Lib.hid (show InR wr (.agg #[.bool t.1, .slice A5 t.2.1.length c5, .slice A6 t.2.2.length c6]) t.1 t.2.1 t.2.2 from ⟨_, _, rfl, i1, i2⟩)
            have hbax := below_alloc wr (.cells #[.bool t.1, .slice A5 t.2.1.length c5, .slice A6 t.2.2.length c6] 33)
            have HBA := Lib.hid hbax
            have hza : wr.heap.size ≤ (wr.alloc (.cells #[.bool t.1, .slice A5 t.2.1.length c5, .slice A6 t.2.2.length c6] 33)).heap.size := hbax.size
            clear ht i1 i2 hbax
            go_wp2_with fail
            refine (rat_sum r (rT t) HFR.out (trip_form HVT.out).1 _ _ _ (HIS.out.on HBA.out) (trip_is HVT.out (HI.out.on HBA.out))).mono ?_
            rintro e w4 h4
            obtain ⟨b5, A7, n7, d7, A8, n8, d8, rfl, ho4, hb4⟩ := h4.open_
            have HO4 := Lib.hid ho4
            have hb4' := HBA.out.trans (hb4.mono hza)
            have HB4 := Lib.hid hb4'
            have HCX4 := Lib.hid (HCX.out.on hb4')
            have HCS4 := Lib.hid (HCS.out.on hb4')
            have hz4 : wr.heap.size ≤ w4.heap.size := hb4'.size
            have HX := Lib.hid (HCX4.out.put3o (g' := gs) (fun h => hg2 h.symm) (.bool b5) (.slice A7 n7 d7) (.slice A8 n8 d8))
            obtain ⟨⟨q0, q1, q2⟩, p0, p1, p2⟩ := HCS4.out
            clear h4 ho4 hb4 hb4' k0 k1 k2 s0 s1 s2 hza
            cases hok : sumOk r (rT t) with
            | false =>
              have HE := Lib.hid (sumE_over HF.out HALL.out (by rw [← HTOT.out, HST.out, hok]; rfl))
              obtain ⟨⟨r0, r1, r2⟩, f0, f1, f2⟩ := HX.out
              simp only [put3] at r0 r1 r2 f0 f1 f2
              clear hok
              unfold okE
              go_wp2_with fail
              obtain ⟨⟨z0, z1, z2⟩, -⟩ := HX.out.put3 (.bool false) (.slice none 0 0) (.slice none 0 0)
              simp only [put3] at z0 z1 z2
              refine bodyPost_ret (v := .tuple #[.agg #[.bool false, .slice none 0 0, .slice none 0 0], .int .i64 2]) (by simp [results, Try.results23, go_sem, z0, z1, z2]) rfl ?_
              rw [HE.out]
              exact ⟨_, rfl, OutR.no (by decide), below_put3 (below_put3 (HBX.out.trans (HB4.out.mono (by omega))) (g := gs) hg1 _ _ _) (g := w.heap.size) (Nat.le_refl _) _ _ _⟩
            | true =>
              have HOK := Lib.hid hok
              rw [hok] at HO4
              clear hok
              unfold okE
              go_wp2_with fail
              go_roundw
              case rel =>
                refine ⟨k + 1, r + rT t, by omega, by go_num, ⟨fit_sum HFR.out (trip_form HVT.out).1 HOK.out, by rw [← HTOT.out, HST.out, HOK.out]; rfl⟩, ⟨below_put3 (HBX.out.trans (HB4.out.mono (by omega))) hg1 _ _ _, hg1, hg2⟩, HX.out, b5, A7, n7, d7, A8, n8, d8, HCS4.out.put3 _ _ _, ?_⟩
                exact InR.put3 (OutR.zero rfl HO4.out) HCS4.out _ _ _
              case measure => simp [intOf]; omega
          · obtain rfl : k = L.length := by omega
            have HE := Lib.hid (sumE_ok HF.out HALL.out (by rw [← HTOT.out, tot_end]))
            obtain ⟨⟨r0, r1, r2⟩, f0, f1, f2⟩ := HCX.out
            go_wp2_with fail
            obtain ⟨⟨z0, z1, z2⟩, -⟩ := HCX.out.put3 (.bool b2) (.slice A3 n3 d3) (.slice A4 n4 d4)
            simp only [put3] at z0 z1 z2
            refine bodyPost_ret (v := .tuple #[.agg #[.bool b2, .slice A3 n3 d3, .slice A4 n4 d4], .int .i64 0]) (by simp [results, Try.results23, go_sem, z0, z1, z2]) rfl ?_
            rw [HE.out.1, HE.out.2]
            exact ⟨_, rfl, OutR.ok (InR.put3 HIS.out HCX.out _ _ _), below_put3 HBX.out (Nat.le_refl _) _ _ _⟩
end Go.Proofs.Ytgmlccjjhmhgbaa
/- The contract of Sum of the reference. -/
namespace Go.Proofs.Ytgmlccjjhmhgbaa
open Go.ChangeShapes Go.WideShapes Go.RowKit
set_option linter.unusedVariables false
set_option maxRecDepth 100000

theorem below_of_drew {w w' : World} (h : Below w.drew.heap.size w.drew w') : Below w.heap.size w w' := (Below.refl w.heap.size w).drew.trans h

end Go.Proofs.Ytgmlccjjhmhgbaa
/- Slices of one-cell elements in memory: what is there, what is the call's own; made, set, appended to. What a step leaves as it was. -/
namespace Go.Proofs.Ytgmlccjjhmhgbaa.Mem
open Go.ChangeShapes Go.WideShapes Go.RowKit Go.Lib
set_option linter.unusedVariables false
set_option maxRecDepth 100000

theorem lt_of_get {α : Type} {l : List α} {j : Nat} {x : α} (h : l[j]? = some x) : j < l.length := by
  rw [List.getElem?_eq_some_iff] at h; exact h.1
/-- Of what was there all but the blocks in S is as it was. -/
structure Off (S : Nat → Prop) (w w' : World) : Prop where
  os : w'.os = w.os
  tape : w'.tape = w.tape
  output : w'.output = w.output
  size : w.heap.size ≤ w'.heap.size
  block : ∀ k, k < w.heap.size → ¬ S k → w'.heap[k]? = w.heap[k]?
theorem Off.refl (S : Nat → Prop) (w : World) : Off S w w := ⟨rfl, rfl, rfl, Nat.le_refl _, fun _ _ _ => rfl⟩
theorem Off.trans {S S' : Nat → Prop} {a b c : World} (h : Off S a b) (k : Off S' b c) (hs : ∀ x, S' x → S x ∨ a.heap.size ≤ x) : Off S a c :=
  ⟨k.os.trans h.os, k.tape.trans h.tape, k.output.trans h.output, Nat.le_trans h.size k.size, fun i hi hn =>
    (k.block i (Nat.lt_of_lt_of_le hi h.size) fun e => by rcases hs i e with h1 | h1; exact hn h1; omega).trans (h.block i hi hn)⟩
theorem Off.below {S : Nat → Prop} {a b : World} {B : Nat} (h : Off S a b) (hB : B ≤ a.heap.size) (hs : ∀ x, S x → B ≤ x) : Below B a b :=
  ⟨h.os, h.tape, h.output, h.size, fun i hi => h.block i (by omega) fun e => by have := hs i e; omega⟩
theorem Off.of_below {S : Nat → Prop} {a b : World} (h : Below a.heap.size a b) : Off S a b := ⟨h.os, h.tape, h.output, h.size, fun i hi _ => h.block i hi⟩
theorem Off.then_below {S : Nat → Prop} {a b c : World} (h : Off S a b) (k : Below b.heap.size b c) : Off S a c := h.trans (Off.of_below (S := fun _ => False) k) fun x e => e.elim
theorem Off.alloc {S : Nat → Prop} {a b : World} (h : Off S a b) (o : Obj) : Off S a (b.alloc o) := h.then_below ((Below.refl _ _).alloc (Nat.le_refl _) _)
theorem Off.drew {S : Nat → Prop} {a b : World} (h : Off S a b) : Off S a b.drew := ⟨h.os, h.tape, h.output, h.size, h.block⟩
theorem Off.set {S : Nat → Prop} {a b : World} (h : Off S a b) {p : Addr} (hp : S p.block ∨ a.heap.size ≤ p.block) (u : Value) : Off S a (b.setCell p u) :=
  h.trans (S' := fun k => k = p.block) ⟨rfl, rfl, rfl, by simp [World.setCell], fun i hi hn => Below.heap_setCell _ _ _ _ hn⟩ fun x e => e ▸ hp
theorem Off.grown {S : Nat → Prop} {a b c : World} {row : Option Nat} (h : Off S a b) (hg : b.grownBy c row) (hr : ∀ k, row = some k → S k ∨ a.heap.size ≤ k) : Off S a c :=
  h.trans (S' := fun k => row = some k) ⟨hg.os, hg.tape, hg.output, hg.size, fun i hi hn => hg.block i hi fun e => hn e.symm⟩ fun x e => hr x e
theorem Off.before {S : Nat → Prop} {a b c : World} (h : Below a.heap.size a b) (k : Off S b c) : Off S a c :=
  (Off.of_below h).trans k fun x e => Or.inl e
theorem Off.mono {S S' : Nat → Prop} {a b : World} (h : Off S a b) (hs : ∀ x, S x → S' x ∨ a.heap.size ≤ x) : Off S' a b :=
  ⟨h.os, h.tape, h.output, h.size, fun i hi hn => h.block i hi fun e => by rcases hs i e with h1 | h1; exact hn h1; omega⟩
theorem below_alloc (w : World) (o : Obj) : Below w.heap.size w (w.alloc o) := (Below.refl _ _).alloc (Nat.le_refl _) _
theorem bstep {a b c : World} (h : Below a.heap.size a b) (k : Below b.heap.size b c) : Below a.heap.size a c := h.trans (k.mono h.size)
theorem below_drewN {B : Nat} {a w : World} (h : Below B a w) (n : Nat) : Below B a (w.drewN n) := ⟨h.os, h.tape, h.output, h.size, h.block⟩
theorem below_drew {B : Nat} {a w : World} (h : Below B a w) : Below B a w.drew := ⟨h.os, h.tape, h.output, h.size, h.block⟩
theorem below_set {B : Nat} {a w : World} (h : Below B a w) {p : Addr} (hp : B ≤ p.block) (u : Value) : Below B a (w.setCell p u) :=
  ⟨h.os, h.tape, h.output, by simpa using h.size, fun k hk => (Below.heap_setCell w p u k (by omega)).trans (h.block k hk)⟩
theorem ret_bool {a b : Bool} (h : a = b) : Ending.returned (.bool a) = .returned (.bool b) := by rw [h]
theorem ret_int {k : IntKind} {a b : Int} (h : a = b) : Ending.returned (.int k a) = .returned (.int k b) := by rw [h]
theorem get_lt {α : Type} {L : List α} {k : Nat} (h : k < L.length) : ∃ s, L[k]? = some s := ⟨_, List.getElem?_eq_getElem h⟩
theorem all_of {α : Type} {p : α → Bool} {L : List α} (h : ∀ (j : Nat) s, j < L.length → L[j]? = some s → p s = true) : L.all p = true := by
  rw [List.all_eq_true]
  intro s hs
  obtain ⟨j, hj⟩ := List.mem_iff_getElem?.mp hs
  exact h j s (lt_of_get hj) hj
theorem all_not {α : Type} {p : α → Bool} {L : List α} {j : Nat} {s : α} (h : L[j]? = some s) (hs : p s = false) : L.all p = false := by
  rw [List.all_eq_false]; exact ⟨s, List.mem_of_getElem? h, by simpa using hs⟩
theorem wrap_id {x : Int} (h : -9223372036854775808 ≤ x ∧ x ≤ 9223372036854775807) : IntKind.i64.wrap x = x := by rw [IntKind.wrap_i64]; omega

/-! ### One-cell elements -/
section
variable {α : Type} {enc : α → Value} {t : TypeId} {B : Nat} {w w' : World} {v : Value} {L : List α} {g n cap : Nat} {A : Option Addr}
/-- At the address lie the elements of L. -/
def Cl (enc : α → Value) (w : World) (A : Option Addr) (L : List α) : Prop :=
  ∀ (k : Nat) (z : α), L[k]? = some z → ∃ b off, A = some ⟨b, off, none⟩ ∧ b < w.heap.size ∧ w.cell? ⟨b, off + k, none⟩ = some (enc z)
/-- A slice that holds L. -/
def InS (enc : α → Value) (w : World) (v : Value) (L : List α) : Prop := ∃ A c, v = .slice A L.length c ∧ L.length ≤ c ∧ c ≤ maxLen ∧ Cl enc w A L
/-- A slice of the call's own that holds L. -/
def Own (enc : α → Value) (t : TypeId) (B : Nat) (w : World) (v : Value) (L : List α) : Prop := w.ownsRow B t 1 v L.length (L.map enc)
theorem Cl.nil (enc : α → Value) (w : World) (A : Option Addr) : Cl enc w A [] := fun k z h => by simp at h
theorem Cl.on (h : Cl enc w A L) (hb : Below w.heap.size w w') : Cl enc w' A L := by
  intro k z hk
  obtain ⟨b, off, e, hlt, h0⟩ := h k z hk
  exact ⟨b, off, e, Nat.lt_of_lt_of_le hlt hb.size, (hb.cell (p := ⟨b, off + k, none⟩) hlt).trans h0⟩
theorem Cl.drew (h : Cl enc w A L) : Cl enc w.drew A L := h
theorem InS.nil (enc : α → Value) (w : World) : InS enc w (.slice none 0 0) [] := ⟨none, 0, rfl, Nat.le_refl _, by unfold maxLen; omega, Cl.nil _ _ _⟩
theorem InS.on (h : InS enc w v L) (hb : Below w.heap.size w w') : InS enc w' v L := by
  obtain ⟨A, c, e, h1, h2, h3⟩ := h; exact ⟨A, c, e, h1, h2, h3.on hb⟩
theorem InS.open_ (h : InS enc w v L) : ∃ A c, v = .slice A L.length c ∧ L.length ≤ 9223372036854775807 ∧ Cl enc w A L := by
  obtain ⟨A, c, rfl, h1, h2, h3⟩ := h
  exact ⟨A, c, rfl, by unfold maxLen at h2; omega, h3⟩
theorem Own.nil (enc : α → Value) (t : TypeId) (B : Nat) (w : World) : Own enc t B w (.slice none 0 0) [] := World.ownsRow_nil _ _ _ _
theorem Own.lt (h : Own enc t B w v L) : ∀ k, v.ownBlock = some k → B ≤ k ∧ k < w.heap.size := World.ownsRow.lt h
theorem Own.inS (h : Own enc t B w v L) : InS enc w v L := by
  obtain ⟨h1, ⟨rfl, h2⟩ | ⟨g, cap, cur, rfl, h2, h3, h4, h5, h6, h7⟩⟩ := h
  · obtain rfl : L = [] := List.eq_nil_of_length_eq_zero h2
    exact InS.nil enc w
  · refine ⟨_, cap, rfl, h4, h5, fun k z hz => ⟨g, 0, rfl, (Array.getElem?_eq_some_iff.mp h3).1, ?_⟩⟩
    rw [cell_of_row w g _ cur _ (0, 0) h3, Nat.zero_add]
    have hu : (cur.toList.take (L.length * 1))[k]? = some (enc z) := by rw [h7, List.getElem?_map, hz]; rfl
    rw [List.getElem?_take] at hu
    split at hu
    · simpa using hu
    · cases hu
theorem Own.blk (h : Own enc t B w v L) (h0 : 0 < L.length) : ∃ g cap, v = .slice (some ⟨g, 0, none⟩) L.length cap ∧ B ≤ g ∧ g < w.heap.size ∧ L.length ≤ cap := by
  obtain ⟨_, ⟨_, h1⟩ | ⟨g, cap, cur, h1, h2, h3, h4, _⟩⟩ := h
  · omega
  · exact ⟨g, cap, h1, h2, (Array.getElem?_eq_some_iff.mp h3).1, h4⟩
theorem Own.keep (h : Own enc t B w v L) (hk : ∀ k, v.ownBlock = some k → w'.heap[k]? = w.heap[k]?) : Own enc t B w' v L := by
  obtain ⟨h1, h0 | ⟨g, cap, cur, rfl, h2, h3, h4⟩⟩ := h
  · exact ⟨h1, Or.inl h0⟩
  · exact ⟨h1, Or.inr ⟨g, cap, cur, rfl, h2, (hk g rfl).trans h3, h4⟩⟩
theorem Own.on (h : Own enc t B w v L) (hb : Below w.heap.size w w') : Own enc t B w' v L := h.keep fun k hk => hb.block k (h.lt k hk).2
theorem Own.drew (h : Own enc t B w v L) : Own enc t B w.drew v L := h
theorem Own.drewN (h : Own enc t B w v L) (n : Nat) : Own enc t B (w.drewN n) v L := h.keep fun _ _ => rfl
theorem Own.alloc (h : Own enc t B w v L) (o : Obj) : Own enc t B (w.alloc o) v L := World.ownsRow.alloc h o
theorem Own.less {B' : Nat} (h : Own enc t B w v L) (hB : B' ≤ B) : Own enc t B' w v L := by
  obtain ⟨h1, h0 | ⟨g, cap, cur, e, h2, h3⟩⟩ := h
  · exact ⟨h1, Or.inl h0⟩
  · exact ⟨h1, Or.inr ⟨g, cap, cur, e, Nat.le_trans hB h2, h3⟩⟩
theorem Own.other (h : Own enc t B w v L) {p : Addr} (hp : v.ownBlock ≠ some p.block) (u : Value) : Own enc t B (w.setCell p u) v L :=
  h.keep fun k hk => Below.heap_setCell w p u k fun e => hp (by rw [hk, e])
theorem Own.warm (h : Own enc t B w (.slice (some ⟨g, 0, none⟩) n cap) L) (hn : n = L.length) (j : Nat) : w.frozen? ⟨g, j, none⟩ = false := by
  subst hn
  exact World.ownsRow.frozenAt (h : w.ownsRow B t 1 (.slice (some ⟨g, 0, none⟩) L.length cap) L.length (L.map enc)) j
theorem Own.set (h : Own enc t B w (.slice (some ⟨g, 0, none⟩) n cap) L) (hn : n = L.length) (j : Nat) (z : α) : Own enc t B (w.setCell ⟨g, j, none⟩ (enc z)) (.slice (some ⟨g, 0, none⟩) n cap) (L.set j z) := by
  subst hn
  have h1 := (World.ownsRow.stored (h : w.ownsRow B t 1 (.slice (some ⟨g, 0, none⟩) L.length cap) L.length (L.map enc)) j (enc z)).1
  unfold Own
  rw [List.length_set, List.map_set]; exact h1
theorem Own.cell (h : Own enc t B w (.slice (some ⟨g, 0, none⟩) n cap) L) {j : Nat} {b : α} (hb : L[j]? = some b) : w.cell? ⟨g, j, none⟩ = some (enc b) := by
  obtain ⟨A, c, e, _, _, hy⟩ := h.inS
  cases e
  obtain ⟨g', off, e, _, hc⟩ := hy j b hb
  cases e
  rw [Nat.zero_add] at hc; exact hc
theorem Own.cl (h : Own enc t B w (.slice (some ⟨g, 0, none⟩) n cap) L) : Cl enc w (some ⟨g, 0, none⟩) L := by
  obtain ⟨A, c, e, _, _, hy⟩ := h.inS
  cases e
  exact hy
theorem Own.below (h : Own enc t B w v L) (hg : w.grownBy w' v.ownBlock) (hB : B ≤ w.heap.size) : Below B w w' :=
  ⟨hg.os, hg.tape, hg.output, hg.size, fun i hi => hg.block i (Nat.lt_of_lt_of_le hi hB) fun e => by have := (h.lt i e.symm).1; omega⟩
end

/-! ### Appending, making -/
theorem info_int : (Try.prog.info? 3).map (fun i => (i.zero, i.size, i.bytes)) = some (some (.int .i64 0), 1, 8) := by kernel_rfl
abbrev eI : Int → Value := Value.int .i64
abbrev eB : Bool → Value := Value.bool
/-- 'append(s, x)' of integers. -/
theorem append_int {w : World} {ops : Array Oper} {rest : List Oper} {o : Oper} {a : Act} {Q : Exit → Act → World → Prop} (hgd : o.guard = none) (s x : Operand)
    (ho : o.op = .call { callee := .builtin .append, args := #[s, x], argTypes := #[30, 30] })
    (B : Nat) (v : Value) (L : List Int) (hs : a.eval s = v) (hown : Own eI 3 B w v L) (g c0 : Nat) (z : Int) (hx : a.eval x = .slice (some ⟨g, 0, none⟩) 1 c0) (hz : w.cell? ⟨g, 0, none⟩ = some (.int .i64 z))
    (hlen : L.length + 1 ≤ 1000000) (hB : B ≤ w.heap.size)
    (h : ∀ v' w', Own eI 3 B w' v' (L ++ [z]) → w.grownBy w' v.ownBlock → (v'.ownBlock = v.ownBlock ∨ v'.ownBlock = some w.heap.size) → wpList Try.prog ops Q rest (a.put o.dst v') w') : wpList Try.prog ops Q (o :: rest) a w := by
  obtain ⟨i0, hi0, hz0, hz1, hz2⟩ := info_parts info_int
  refine wpList_append_own_at w hgd s x _ ho B 3 i0 (.int .i64 0) 1 8 Try.underlying30 hi0 hz0 hz1 hz2 rfl (by decide) v L.length (L.map eI) hs hown ⟨g, 0, none⟩ 1 c0 [.int .i64 z] hx rfl ?_ (by intro u hu; simp at hu; subst hu; rfl) (by unfold maxLen; omega) (by omega) hB ?_
  · intro j u hj
    match j, hj with
    | 0, hj => simp at hj; subst hj; rw [Addr.add_lit]; exact hz
  · intro v' w' hown' hg _ hat
    exact h v' w' (by unfold Own; rw [List.length_append, List.map_append]; exact hown') hg hat
theorem int_one (w : World) (x : Int) (T : TypeId) {g : Nat} (hg : w.heap.size = g) : (w.alloc (.cells #[.int .i64 x] T)).cell? ⟨g, 0, none⟩ = some (.int .i64 x) := by subst hg; simp
theorem make_ints (n : Nat) (hn : n ≤ 100000) (W : World) :
    (Instr.makeSlice 30 (.int .i64 (n : Int)) (.int .i64 (n : Int))).run Try.prog W = .ok (.slice (some ⟨W.heap.size, 0, none⟩) n n) (W.alloc (.cells (madeCells #[.int .i64 0] n) 3)) := by
  obtain ⟨i, hi, hz, hs, hb⟩ := info_parts info_int
  have h := run_make (P := Try.prog) (w := W) 30 3 i _ Try.underlying30 hi hz .i64 .i64 (n : Int) (n : Int) (by omega) (by omega) (by rw [hb]; omega) (by omega)
  rw [hs, Int.toNat_natCast, Nat.mul_one] at h
  exact h
/-- What make made. -/
theorem own_made {α : Type} (enc : α → Value) (t : TypeId) (W : World) (n : Nat) (x : α) (hn : n ≤ 100000) : Own enc t W.heap.size (W.alloc (.cells (madeCells #[enc x] n) t)) (.slice (some ⟨W.heap.size, 0, none⟩) n n) (List.replicate n x) := by
  have h := World.ownsRow_lit (base := W.heap.size) (e := t) (size := 1) W (madeCells #[enc x] n) n (Nat.le_refl _) (by unfold maxLen; omega) (by rw [size_madeCells, Nat.mul_one])
  unfold Own
  rw [List.length_replicate, List.map_replicate]
  rw [toList_madeCells_one] at h
  exact h
theorem slice_lo (A : Addr) (n c k : Nat) (hA : A.spot = none) (hk : k ≤ n) (hc : k < c) (W : World) : (Instr.slice 30 (.slice (some A) n c) (some (.int .i64 (k : Int))) none none).run Try.prog W = .ok (.slice (some ⟨A.block, A.off + k, none⟩) (n - k) (c - k)) W := by
  have ht : Try.prog.underlying 30 = some (.slice (Try.prog.elem 30)) := by kernel_rfl
  have hs : (sizeOf (Try.prog.elem 30)).run Try.prog W = .ok 1 W := Try.sizeOf3 W
  obtain ⟨b, off, sp⟩ := A
  simp at hA
  subst hA
  rw [run_slice_l W 30 (some ⟨b, off, none⟩) n c ht .i64 k (by omega) (by omega), hs]
  simp [sliced, Result.andThen, Addr.add_lit]
  intro h
  omega
theorem slice_hi (A : Option Addr) (n c k : Nat) (hk : k ≤ c) (W : World) : (Instr.slice 30 (.slice A n c) none (some (.int .i64 (k : Int))) none).run Try.prog W = .ok (.slice A k c) W := by
  have ht : Try.prog.underlying 30 = some (.slice (Try.prog.elem 30)) := by kernel_rfl
  have hs : (sizeOf (Try.prog.elem 30)).run Try.prog W = .ok 1 W := Try.sizeOf3 W
  rw [run_slice_h W 30 A n c ht .i64 k (by omega) (by omega), hs]
  simp [sliced, Result.andThen]
  intro _
  cases A <;> simp [Addr.add]
theorem drew_below (w : World) : Below w.heap.size w w.drew := below_drew (Below.refl _ _)
theorem take_snoc_of {α : Type} {l : List α} {k : Nat} {z : α} (h : l[k]? = some z) : l.take (k + 1) = l.take k ++ [z] := by
  rw [List.take_add_one, h]; rfl
end Go.Proofs.Ytgmlccjjhmhgbaa.Mem
/- Rows of elements in memory, whatever their cells; what a step leaves as it was. -/
namespace Go.Proofs.Ytgmlccjjhmhgbaa.Rw
open Go.ChangeShapes Go.WideShapes Go.RowKit
set_option linter.unusedVariables false
set_option maxRecDepth 100000

theorem glt {β : Type} {L : List β} {k : Nat} {x : β} (h : L[k]? = some x) : k < L.length := by
  rw [List.getElem?_eq_some_iff] at h; exact h.1
/-- Of what was there all but the blocks in S is as it was. -/
structure Off (S : Nat → Prop) (w w' : World) : Prop where
  os : w'.os = w.os
  tape : w'.tape = w.tape
  output : w'.output = w.output
  size : w.heap.size ≤ w'.heap.size
  block : ∀ k, k < w.heap.size → ¬ S k → w'.heap[k]? = w.heap[k]?
theorem Off.refl (S : Nat → Prop) (w : World) : Off S w w := ⟨rfl, rfl, rfl, Nat.le_refl _, fun _ _ _ => rfl⟩
theorem Off.trans {S S' : Nat → Prop} {a b c : World} (h : Off S a b) (k : Off S' b c) (hs : ∀ x, S' x → S x ∨ a.heap.size ≤ x) : Off S a c :=
  ⟨k.os.trans h.os, k.tape.trans h.tape, k.output.trans h.output, Nat.le_trans h.size k.size, fun i hi hn =>
    (k.block i (Nat.lt_of_lt_of_le hi h.size) fun e => by rcases hs i e with h1 | h1; exact hn h1; omega).trans (h.block i hi hn)⟩
theorem Off.below {S : Nat → Prop} {a b : World} {B : Nat} (h : Off S a b) (hB : B ≤ a.heap.size) (hs : ∀ x, S x → B ≤ x) : Below B a b :=
  ⟨h.os, h.tape, h.output, h.size, fun i hi => h.block i (by omega) fun e => by have := hs i e; omega⟩
theorem Off.of_below {S : Nat → Prop} {a b : World} (h : Below a.heap.size a b) : Off S a b := ⟨h.os, h.tape, h.output, h.size, fun i hi _ => h.block i hi⟩
theorem Off.then_below {S : Nat → Prop} {a b c : World} (h : Off S a b) (k : Below b.heap.size b c) : Off S a c := h.trans (Off.of_below (S := fun _ => False) k) fun x e => e.elim
theorem Off.alloc {S : Nat → Prop} {a b : World} (h : Off S a b) (o : Obj) : Off S a (b.alloc o) := h.then_below ((Below.refl _ _).alloc (Nat.le_refl _) _)
theorem Off.drew {S : Nat → Prop} {a b : World} (h : Off S a b) : Off S a b.drew := ⟨h.os, h.tape, h.output, h.size, h.block⟩
theorem Off.set {S : Nat → Prop} {a b : World} (h : Off S a b) {p : Addr} (hp : S p.block ∨ a.heap.size ≤ p.block) (u : Value) : Off S a (b.setCell p u) :=
  h.trans (S' := fun k => k = p.block) ⟨rfl, rfl, rfl, by simp [World.setCell], fun i hi hn => Below.heap_setCell _ _ _ _ hn⟩ fun x e => e ▸ hp
theorem Off.grown {S : Nat → Prop} {a b c : World} {row : Option Nat} (h : Off S a b) (hg : b.grownBy c row) (hr : ∀ k, row = some k → S k ∨ a.heap.size ≤ k) : Off S a c :=
  h.trans (S' := fun k => row = some k) ⟨hg.os, hg.tape, hg.output, hg.size, fun i hi hn => hg.block i hi fun e => hn e.symm⟩ fun x e => hr x e
theorem Off.before {S : Nat → Prop} {a b c : World} (h : Below a.heap.size a b) (k : Off S b c) : Off S a c :=
  (Off.of_below h).trans k fun x e => Or.inl e
theorem Off.mono {S S' : Nat → Prop} {a b : World} (h : Off S a b) (hs : ∀ x, S x → S' x ∨ a.heap.size ≤ x) : Off S' a b :=
  ⟨h.os, h.tape, h.output, h.size, fun i hi hn => h.block i hi fun e => by rcases hs i e with h1 | h1; exact hn h1; omega⟩
theorem below_alloc (w : World) (o : Obj) : Below w.heap.size w (w.alloc o) := (Below.refl _ _).alloc (Nat.le_refl _) _
theorem bstep {a b c : World} (h : Below a.heap.size a b) (k : Below b.heap.size b c) : Below a.heap.size a c := h.trans (k.mono h.size)
theorem below_drewN {B : Nat} {a w : World} (h : Below B a w) (n : Nat) : Below B a (w.drewN n) := ⟨h.os, h.tape, h.output, h.size, h.block⟩
theorem below_drew {B : Nat} {a w : World} (h : Below B a w) : Below B a w.drew := ⟨h.os, h.tape, h.output, h.size, h.block⟩
theorem drew_below (w : World) : Below w.heap.size w w.drew := below_drew (Below.refl _ _)
theorem ret_bool {a b : Bool} (h : a = b) : Ending.returned (.bool a) = .returned (.bool b) := by rw [h]
theorem ret_int {k : IntKind} {a b : Int} (h : a = b) : Ending.returned (.int k a) = .returned (.int k b) := by rw [h]
theorem get_lt {α : Type} {L : List α} {k : Nat} (h : k < L.length) : ∃ s, L[k]? = some s := ⟨_, List.getElem?_eq_getElem h⟩
theorem take_snoc_of {α : Type} {l : List α} {k : Nat} {z : α} (h : l[k]? = some z) : l.take (k + 1) = l.take k ++ [z] := by
  rw [List.take_add_one, h]; rfl
theorem wrap_id {x : Int} (h : -9223372036854775808 ≤ x ∧ x ≤ 9223372036854775807) : IntKind.i64.wrap x = x := by rw [IntKind.wrap_i64]; omega
theorem frozen_of {W : World} {g : Nat} {cs : Array Value} {t : TypeId} (h : W.heap[g]? = some (.cells cs t (0, 0))) (i : Nat) : W.frozen? ⟨g, i, none⟩ = false := by simp [World.frozen?, h]

section
variable {α : Type} {cs : α → List Value} {s : Nat} {t : TypeId} {B : Nat} {w w' : World} {v : Value} {L : List α} {g n cap : Nat} {A : Option Addr}
/-- At the address lie the elements of L; cs: the cells of an element, s of them. -/
def Rd (cs : α → List Value) (s : Nat) (w : World) (A : Option Addr) (L : List α) : Prop :=
  ∀ (k : Nat) (z : α), L[k]? = some z → ∃ b off, A = some ⟨b, off, none⟩ ∧ b < w.heap.size ∧ ∀ j u, (cs z)[j]? = some u → w.cell? ⟨b, off + (k * s + j), none⟩ = some u
/-- A row of the call's own that holds L. -/
def Row (cs : α → List Value) (s : Nat) (t : TypeId) (B : Nat) (w : World) (v : Value) (L : List α) : Prop := w.ownsRow B t s v L.length (L.flatMap cs)
theorem Rd.nil (cs : α → List Value) (s : Nat) (w : World) (A : Option Addr) : Rd cs s w A [] := fun k z h => by simp at h
theorem Rd.keep (h : Rd cs s w A L) (hs : w.heap.size ≤ w'.heap.size) (hk : ∀ b off, A = some ⟨b, off, none⟩ → b < w.heap.size → w'.heap[b]? = w.heap[b]?) : Rd cs s w' A L := by
  intro k z hz
  obtain ⟨b, off, e, hlt, h0⟩ := h k z hz
  exact ⟨b, off, e, Nat.lt_of_lt_of_le hlt hs, fun j u hu => (World.cell?_of_block (a := ⟨b, off + (k * s + j), none⟩) (hk b off e hlt)).trans (h0 j u hu)⟩
theorem Rd.on (h : Rd cs s w A L) (hb : Below w.heap.size w w') : Rd cs s w' A L := h.keep hb.size fun b _ _ hlt => hb.block b hlt
theorem Rd.take (h : Rd cs s w A L) (n : Nat) : Rd cs s w A (L.take n) := by
  intro k z hk
  rw [List.getElem?_take] at hk
  split at hk
  · exact h k z hk
  · cases hk
theorem Rd.none_ (h : Rd cs s w none L) : L = [] := by
  cases L with
  | nil => rfl
  | cons z zs => obtain ⟨b, off, hA, _⟩ := h 0 z rfl; cases hA
theorem flat_len (hc : ∀ z, (cs z).length = s) (L : List α) : (L.flatMap cs).length = L.length * s := by
  induction L with
  | nil => simp
  | cons z L ih => rw [List.flatMap_cons, List.length_append, hc, ih, List.length_cons, Nat.succ_mul]; omega
theorem flat_at (hc : ∀ z, (cs z).length = s) {L : List α} {k : Nat} {z : α} (hk : L[k]? = some z) {j : Nat} {u : Value} (hu : (cs z)[j]? = some u) : (L.flatMap cs)[k * s + j]? = some u := by
  induction L generalizing k with
  | nil => simp at hk
  | cons y L ih =>
    rw [List.flatMap_cons]
    cases k with
    | zero =>
      simp at hk; subst hk
      rw [Nat.zero_mul, Nat.zero_add, List.getElem?_append_left (glt hu)]
      exact hu
    | succ k =>
      have := ih (k := k) (by simpa using hk)
      rw [List.getElem?_append_right (by rw [hc, Nat.succ_mul]; omega), hc, Nat.succ_mul, show k * s + s + j - s = k * s + j by omega]
      exact this
theorem Row.nil (cs : α → List Value) (s : Nat) (t : TypeId) (B : Nat) (w : World) : Row cs s t B w (.slice none 0 0) [] := World.ownsRow_nil _ _ _ _
theorem Row.lt (h : Row cs s t B w v L) : ∀ k, v.ownBlock = some k → B ≤ k ∧ k < w.heap.size := World.ownsRow.lt h
theorem Row.one (hc : ∀ z, (cs z).length = s) (h : Row cs s t B w v L) : ∃ A c, v = .slice A L.length c ∧ L.length ≤ c ∧ c ≤ maxLen ∧ Rd cs s w A L ∧ v.ownBlock = A.map (·.block) ∧ (A = none ∨ ∃ g, A = some ⟨g, 0, none⟩ ∧ B ≤ g ∧ g < w.heap.size) := by
  obtain ⟨h1, ⟨rfl, h2⟩ | ⟨g, cap, cur, rfl, h2, h3, h4, h5, h6, h7⟩⟩ := h
  · obtain rfl : L = [] := List.eq_nil_of_length_eq_zero h2
    exact ⟨none, 0, rfl, Nat.le_refl _, by unfold maxLen; omega, Rd.nil _ _ _ _, rfl, Or.inl rfl⟩
  · have hg := (Array.getElem?_eq_some_iff.mp h3).1
    refine ⟨some ⟨g, 0, none⟩, cap, rfl, h4, h5, fun k z hz => ⟨g, 0, rfl, hg, fun j u hu => ?_⟩, rfl, Or.inr ⟨g, rfl, h2, hg⟩⟩
    rw [cell_of_row w g _ cur _ (0, 0) h3, Nat.zero_add]
    have hu' := flat_at hc hz hu
    rw [← h7, List.getElem?_take] at hu'
    split at hu'
    · simpa using hu'
    · cases hu'
theorem Row.blk (h : Row cs s t B w v L) (h0 : 0 < L.length) : ∃ g cap, v = .slice (some ⟨g, 0, none⟩) L.length cap ∧ B ≤ g ∧ g < w.heap.size ∧ L.length ≤ cap ∧ cap ≤ maxLen := by
  obtain ⟨_, ⟨_, h1⟩ | ⟨g, cap, cur, h1, h2, h3, h4, h5, _⟩⟩ := h
  · omega
  · exact ⟨g, cap, h1, h2, (Array.getElem?_eq_some_iff.mp h3).1, h4, h5⟩
theorem Row.cell (hc : ∀ z, (cs z).length = s) (h : Row cs s t B w (.slice (some ⟨g, 0, none⟩) n cap) L) {k : Nat} {z : α} (hk : L[k]? = some z) {j : Nat} {u : Value} (hu : (cs z)[j]? = some u) : w.cell? ⟨g, k * s + j, none⟩ = some u := by
  obtain ⟨A, c, e, _, _, hy, _⟩ := h.one hc
  cases e
  obtain ⟨g', off, e, _, hcell⟩ := hy k z hk
  cases e
  have := hcell j u hu
  rw [Nat.zero_add] at this; exact this
theorem Row.keep (h : Row cs s t B w v L) (hk : ∀ k, v.ownBlock = some k → w'.heap[k]? = w.heap[k]?) : Row cs s t B w' v L := by
  obtain ⟨h1, h0 | ⟨g, cap, cur, rfl, h2, h3, h4⟩⟩ := h
  · exact ⟨h1, Or.inl h0⟩
  · exact ⟨h1, Or.inr ⟨g, cap, cur, rfl, h2, (hk g rfl).trans h3, h4⟩⟩
theorem Row.on (h : Row cs s t B w v L) (hb : Below w.heap.size w w') : Row cs s t B w' v L := h.keep fun k hk => hb.block k (h.lt k hk).2
theorem Row.less {B' : Nat} (h : Row cs s t B w v L) (hB : B' ≤ B) : Row cs s t B' w v L := by
  obtain ⟨h1, h0 | ⟨g, cap, cur, e, h2, h3⟩⟩ := h
  · exact ⟨h1, Or.inl h0⟩
  · exact ⟨h1, Or.inr ⟨g, cap, cur, e, Nat.le_trans hB h2, h3⟩⟩
theorem Row.warm (h : Row cs s t B w (.slice (some ⟨g, 0, none⟩) n cap) L) (hn : n = L.length) (j : Nat) : w.frozen? ⟨g, j, none⟩ = false := by
  subst hn
  exact World.ownsRow.frozenAt (h : w.ownsRow B t s (.slice (some ⟨g, 0, none⟩) L.length cap) L.length (L.flatMap cs)) j
/-- A cell that is set. -/
theorem own_set {xs : List Value} {m : Nat} (h : w.ownsRow B t s (.slice (some ⟨g, 0, none⟩) m cap) m xs) (j : Nat) (u : Value) : (w.setCell ⟨g, j, none⟩ u).ownsRow B t s (.slice (some ⟨g, 0, none⟩) m cap) m (xs.set j u) := (World.ownsRow.stored h j u).1
theorem Row.below (h : Row cs s t B w v L) (hg : w.grownBy w' v.ownBlock) (hB : B ≤ w.heap.size) : Below B w w' :=
  ⟨hg.os, hg.tape, hg.output, hg.size, fun i hi => hg.block i (Nat.lt_of_lt_of_le hi hB) fun e => by have := (h.lt i e.symm).1; omega⟩
theorem Row.empty (cs : α → List Value) (s : Nat) (t : TypeId) (w : World) (hB : B ≤ w.heap.size) : Row cs s t B (w.alloc (.cells #[] t)) (.slice (some ⟨w.heap.size, 0, none⟩) 0 0) [] :=
  World.ownsRow_lit (base := B) (e := t) (size := s) w #[] 0 hB (by unfold maxLen; omega) (by simp)
/-- The first n elements: 's[:n]'. -/
theorem Row.cut (hc : ∀ z, (cs z).length = s) (h : Row cs s t B w (.slice (some ⟨g, 0, none⟩) n cap) L) (hn : n = L.length) {m : Nat} (hm : m ≤ n) : Row cs s t B w (.slice (some ⟨g, 0, none⟩) m cap) (L.take m) := by
  subst hn
  obtain ⟨h1, ⟨h0, _⟩ | ⟨g', cap', cur, e, h2, h3, h4, h5, h6, h7⟩⟩ := h
  · cases h0
  · cases e
    have hfl : (L.take m).flatMap cs = (L.flatMap cs).take (m * s) := by
      conv => rhs; rw [← List.take_append_drop m L, List.flatMap_append]
      rw [List.take_left' (by rw [flat_len hc, List.length_take]; congr 1; omega)]
    have hlen : (L.take m).length = m := by rw [List.length_take]; omega
    refine ⟨by rw [flat_len hc], Or.inr ⟨g, cap, cur, by rw [hlen], h2, h3, by rw [hlen]; omega, h5, h6, ?_⟩⟩
    rw [hlen, hfl, ← h7, List.take_take]
    congr 1
    exact (Nat.min_eq_left (Nat.mul_le_mul_right _ hm)).symm
end
end Go.Proofs.Ytgmlccjjhmhgbaa.Rw
