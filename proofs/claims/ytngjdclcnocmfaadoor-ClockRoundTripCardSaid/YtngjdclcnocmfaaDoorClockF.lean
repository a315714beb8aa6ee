/- Slices and blocks of integers; contracts of Crew of the program and of the reference. -/
import Derived.Test.YtngjdclcnocmfaaDoorClockE
import Derived.Handy
namespace Go.Proofs.YtngjdclcnocmfaaDoor.Clock
open Go.ChangeShapes Go.WideShapes Go.RowKit
set_option linter.unusedVariables false
set_option maxRecDepth 100000

/-- At the address lie the integers zs. -/
def Its (w : World) (A : Option Addr) (zs : List Int) : Prop :=
  ∀ (k : Nat) (z : Int), zs[k]? = some z → ∃ b off, A = some ⟨b, off, none⟩ ∧ b < w.heap.size ∧ w.cell? ⟨b, off + k, none⟩ = some (.int .i64 z)
theorem Its.on {w w' : World} {A : Option Addr} {zs : List Int} (h : Its w A zs) (hb : Below w.heap.size w w') : Its w' A zs := by
  intro k z hk
  obtain ⟨b, off, e, hlt, h0⟩ := h k z hk
  exact ⟨b, off, e, Nat.lt_of_lt_of_le hlt hb.size, (hb.cell (p := ⟨b, off + k, none⟩) hlt).trans h0⟩
theorem get_lt {α : Type} {L : List α} {k : Nat} (h : k < L.length) : ∃ s, L[k]? = some s := ⟨_, List.getElem?_eq_getElem h⟩
theorem lt_get {α : Type} {L : List α} {k : Nat} {s : α} (h : L[k]? = some s) : k < L.length := by
  rcases Nat.lt_or_ge k L.length with h1 | h1
  · exact h1
  · rw [List.getElem?_eq_none h1] at h; cases h

/-- A block of integers. -/
def IntsB (w : World) (g : Nat) (zs : List Int) : Prop := ∃ t, w.heap[g]? = some (.cells (zs.map (Value.int .i64)).toArray t (0, 0))
theorem IntsB.cell {w : World} {g : Nat} {zs : List Int} (h : IntsB w g zs) {k : Nat} {z : Int} (hz : zs[k]? = some z) : w.cell? ⟨g, k, none⟩ = some (.int .i64 z) ∧ w.frozen? ⟨g, k, none⟩ = false := by
  obtain ⟨t, hg⟩ := h
  exact ⟨by rw [cell_of_row w g k _ t (0, 0) hg]; simp [hz], by simp [World.frozen?, hg]⟩
theorem IntsB.lt {w : World} {g : Nat} {zs : List Int} (h : IntsB w g zs) : g < w.heap.size := by
  obtain ⟨t, hg⟩ := h; exact (Array.getElem?_eq_some_iff.mp hg).1
theorem IntsB.keep {w w' : World} {g : Nat} {zs : List Int} (h : IntsB w g zs) (hk : w'.heap[g]? = w.heap[g]?) : IntsB w' g zs := by
  obtain ⟨t, hg⟩ := h; exact ⟨t, hk.trans hg⟩
theorem IntsB.on {w w' : World} {g : Nat} {zs : List Int} (h : IntsB w g zs) (hb : Below w.heap.size w w') : IntsB w' g zs := h.keep (hb.block g h.lt)
theorem IntsB.store {w : World} {g : Nat} {zs : List Int} (h : IntsB w g zs) (k : Nat) (v : Int) : IntsB (w.setCell ⟨g, k, none⟩ (.int .i64 v)) g (zs.set k v) := by
  obtain ⟨t, hg⟩ := h
  refine ⟨t, ?_⟩
  simp only [World.setCell, Array.getElem?_modify, hg, if_true, Option.map_some]
  congr 2
  rw [List.map_set]
  simp
theorem IntsB.new (w : World) (zs : List Int) (t : TypeId) : IntsB (w.alloc (.cells (zs.map (Value.int .i64)).toArray t)) w.heap.size zs := ⟨t, heap_alloc_new w _⟩

def okC (z : Int) : Bool := decide (0 ≤ z) && decide (z ≤ 15)
theorem okC_iff {z : Int} : okC z = true ↔ 0 ≤ z ∧ z ≤ 15 := by simp [okC]
theorem okC_cases (z : Int) : (okC z = false ∧ z < 0) ∨ (okC z = false ∧ decide (z < 0) = false ∧ 15 < z) ∨ (okC z = true ∧ decide (z < 0) = false ∧ decide (15 < z) = false) := by
  rcases Int.lt_or_le z 0 with h | h
  · exact Or.inl ⟨by rw [← Bool.not_eq_true, okC_iff]; omega, h⟩
  · rcases Int.lt_or_le 15 z with h1 | h1
    · exact Or.inr (Or.inl ⟨by rw [← Bool.not_eq_true, okC_iff]; omega, decide_eq_false (by omega), h1⟩)
    · exact Or.inr (Or.inr ⟨okC_iff.mpr ⟨h, h1⟩, decide_eq_false (by omega), decide_eq_false (by omega)⟩)
/-- The crew on duty, or the error. -/
def crwE (zs : List Int) (t : Int) : Int := if zs.length = 0 then 10 else if 64 < zs.length then 8 else if zs.all okC = true then rngE t else 1
def crwV (zs : List Int) (t : Int) : Int := if crwE zs t = 0 then zs.getD (t.toNat / 28800 % zs.length) 0 else 0
theorem crw_err {zs : List Int} {t e : Int} (h : crwE zs t = e) (he : ¬ e = 0) : crwV zs t = 0 ∧ crwE zs t = e := ⟨by rw [crwV, if_neg (by rw [h]; exact he)], h⟩
theorem crw_empty (t : Int) : crwV [] t = 0 ∧ crwE [] t = 10 := crw_err rfl (by decide)
theorem crw_full {zs : List Int} (t : Int) (h : 64 < zs.length) : crwV zs t = 0 ∧ crwE zs t = 8 := crw_err (by rw [crwE, if_neg (by omega), if_pos h]) (by decide)
theorem all_not {α : Type} {p : α → Bool} {L : List α} {j : Nat} {s : α} (h : L[j]? = some s) (hs : p s = false) : ¬ L.all p = true := by
  rw [List.all_eq_true]; intro k; rw [k s (List.mem_of_getElem? h)] at hs; cases hs
theorem all_of {α : Type} {p : α → Bool} {L : List α} (h : ∀ (j : Nat) s, j < L.length → L[j]? = some s → p s = true) : L.all p = true := by
  rw [List.all_eq_true]
  intro s hs
  obtain ⟨j, hj⟩ := List.mem_iff_getElem?.mp hs
  exact h j s (lt_get hj) hj
theorem crw_bad {zs : List Int} (t : Int) (h0 : 0 < zs.length) (h1 : zs.length ≤ 64) {j : Nat} {z : Int} (hz : zs[j]? = some z) (hb : okC z = false) : crwV zs t = 0 ∧ crwE zs t = 1 :=
  crw_err (by rw [crwE, if_neg (by omega), if_neg (by omega), if_neg (all_not hz hb)]) (by decide)
theorem crw_range {zs : List Int} {t : Int} (h0 : 0 < zs.length) (h1 : zs.length ≤ 64) (ha : zs.all okC = true) (hm : mom t = false) : crwV zs t = 0 ∧ crwE zs t = 1 :=
  crw_err (by rw [crwE, if_neg (by omega), if_neg (by omega), if_pos ha, rngE_no hm]) (by decide)
theorem crw_ok {zs : List Int} {n : Nat} (h0 : 0 < zs.length) (h1 : zs.length ≤ 64) (ha : zs.all okC = true) (hm : mom (n : Int) = true) {z : Int} (hz : zs[n / 28800 % zs.length]? = some z) : crwV zs n = z ∧ crwE zs n = 0 := by
  have e : crwE zs n = 0 := by rw [crwE, if_neg (by omega), if_neg (by omega), if_pos ha, rngE_yes hm]
  refine ⟨?_, e⟩
  rw [crwV, if_pos e, Int.toNat_natCast, List.getD_eq_getElem?_getD, hz]; rfl

set_option maxHeartbeats 1600000 in
theorem clock_Crew (zs : List Int) (t : Int) (A : Option Addr) (c : Nat) (w : World) (ha : Its w A zs) (hm : zs.length ≤ 9223372036854775807) :
    Calls Tryd.prog 18 #[.slice A zs.length c, .int .i64 t] w fun e w' => e = .returned (.tuple #[.int .i64 (crwV zs t), .int .i64 (crwE zs t)]) ∧ Below w.heap.size w w' := by
  have HA := Lib.hid ha
  clear ha
  rcases Nat.eq_zero_or_pos zs.length with h0 | h0
  · obtain rfl : zs = [] := List.eq_nil_of_length_eq_zero h0
    clear h0
    go_enter Tryd.func18, Tryd.ntmps18
    go_wp2_with fail
    go_ret2
    exact ⟨ret_two (crw_empty t).1.symm (crw_empty t).2.symm, Below.refl _ _⟩
  · have z0 : ((zs.length : Int) == 0) = false := beq_false_of_ne (by omega)
    rcases Nat.lt_or_ge 64 zs.length with h1 | h1
    · have h1' : (64 : Int) < (zs.length : Int) := by omega
      have H1 := Lib.hid h1
      clear h1
      go_enter Tryd.func18, Tryd.ntmps18
      go_wp2_with fail
      go_ret2
      exact ⟨ret_two (crw_full t H1.out).1.symm (crw_full t H1.out).2.symm, Below.refl _ _⟩
    · have h1' : decide ((64 : Int) < (zs.length : Int)) = false := decide_eq_false (by omega)
      have H1 := Lib.hid h1
      have H0 := Lib.hid h0
      clear h0 h1
      go_enter Tryd.func18, Tryd.ntmps18
      go_wp2_with fail
      go_loopw [16] (fun i wr => ∃ k : Nat, k ≤ zs.length ∧ i = .int .i64 k ∧ (∀ j s, j < k → zs[j]? = some s → okC s = true) ∧ Below w.heap.size w wr) (fun i _ => zs.length - (intOf i).toNat)
      case atStart => exact ⟨0, Nat.zero_le _, rfl, fun j t h => absurd h (by omega), Below.refl _ _⟩
      case round =>
        obtain ⟨k, hk, rfl, hv, hbel⟩ := hrel
        have HV := Lib.hid hv
        have HW := Lib.hid hbel
        clear hv hbel
        rcases Nat.lt_or_ge k zs.length with hlt | hge
        · obtain ⟨z, hz⟩ := get_lt hlt
          obtain ⟨b, off, rfl, hb, hc⟩ := HA.out.on HW.out k z hz
          have HZ := Lib.hid hz
          have i1 : (k : Int) < (zs.length : Int) := by omega
          have i2 : (0 : Int) ≤ (k : Int) := by omega
          clear hz
          rcases okC_cases z with ⟨ho, d1⟩ | ⟨ho, d1, d2⟩ | ⟨ho, d1, d2⟩
          · have HO := Lib.hid (crw_bad t H0.out H1.out HZ.out ho)
            clear ho
            go_wp2_with fail
            go_ret2
            exact ⟨ret_two HO.out.1.symm HO.out.2.symm, HW.out⟩
          · have HO := Lib.hid (crw_bad t H0.out H1.out HZ.out ho)
            clear ho
            go_wp2_with fail
            go_ret2
            exact ⟨ret_two HO.out.1.symm HO.out.2.symm, HW.out⟩
          · have HO := Lib.hid ho
            clear ho
            go_wp2_with fail
            go_roundw
            case rel =>
              refine ⟨k + 1, by omega, by go_num, ?_, HW.out⟩
              intro j u hj hu
              rcases Nat.lt_or_eq_of_le (Nat.le_of_lt_succ hj) with h | h
              · exact HV.out j u h hu
              · subst h
                have e := HZ.out
                rw [hu] at e; cases e; exact HO.out
            case measure => simp [intOf]; omega
        · obtain rfl : k = zs.length := by omega
          have HALL := Lib.hid (all_of HV.out)
          cases hmo : mom t with
          | false =>
            have HMO := Lib.hid hmo
            clear hmo
            have HO := Lib.hid (crw_range H0.out H1.out HALL.out HMO.out)
            go_wp2_with fail
            refine (is_moment t wr).mono ?_
            rintro e w' ⟨rfl, rfl⟩
            rw [HMO.out]
            go_wp2_with fail
            go_ret2
            exact ⟨ret_two HO.out.1.symm HO.out.2.symm, HW.out⟩
          | true =>
            have HMO := Lib.hid hmo
            obtain ⟨n, rfl, hn⟩ := mom_nat hmo
            clear hmo
            obtain ⟨q, hq⟩ : ∃ q, q = n / 28800 := ⟨_, rfl⟩
            obtain ⟨j, hj⟩ : ∃ j, j = q % zs.length := ⟨_, rfl⟩
            have hj2 : j < zs.length := by rw [hj]; exact Nat.mod_lt _ H0.out
            obtain ⟨z, hz⟩ := get_lt hj2
            obtain ⟨b, off, rfl, hb, hc⟩ := HA.out.on HW.out j z hz
            have HO := Lib.hid (crw_ok (n := n) H0.out H1.out HALL.out HMO.out (z := z) (by rw [← hq, ← hj]; exact hz))
            have em : ((q : Int)).tmod (zs.length : Int) = (j : Int) := by rw [hj]; exact tmod_nat _ _
            have em2 : ((q : Int)) % (zs.length : Int) = (j : Int) := by rw [hj]; rfl
            have ed : ((n : Int)) / 28800 = (q : Int) := by rw [hq]; rfl
            have ed2 : ((n : Int)).tdiv 28800 = (q : Int) := by rw [hq]; exact tdiv_nat _ _
            have i1 : (j : Int) < (zs.length : Int) := by omega
            have i2 : (0 : Int) ≤ (j : Int) := by omega
            have n0 : ¬ ((zs.length : Int) = 0) := by have := H0.out; omega
            have q2 : q ≤ 75000 := by omega
            have HQ := Lib.hid hq
            clear hq hj hz
            go_wp2_with fail
            refine (is_moment _ wr).mono ?_
            rintro e w' ⟨rfl, rfl⟩
            rw [HMO.out]
            go_wp2_with fail
            refine (clock_number n (by omega) wr).mono ?_
            rintro e w' ⟨rfl, rfl⟩
            rw [← HQ.out]
            go_wp2_with fail
            go_ret2
            exact ⟨ret_two HO.out.1.symm HO.out.2.symm, HW.out⟩
set_option maxHeartbeats 1600000 in
theorem ref_Crew (zs : List Int) (t : Int) (A : Option Addr) (c : Nat) (w : World) (ha : Its w A zs) (hm : zs.length ≤ 9223372036854775807) :
    Calls Tryd.prog 19 #[.slice A zs.length c, .int .i64 t] w fun e w' => e = .returned (.tuple #[.int .i64 (crwV zs t), .int .i64 (crwE zs t)]) ∧ Below w.heap.size w w' := by
  have HA := Lib.hid ha
  clear ha
  rcases Nat.eq_zero_or_pos zs.length with h0 | h0
  · obtain rfl : zs = [] := List.eq_nil_of_length_eq_zero h0
    clear h0
    go_enter Tryd.func19, Tryd.ntmps19
    go_wp2_with fail
    go_ret2
    exact ⟨ret_two (crw_empty t).1.symm (crw_empty t).2.symm, Below.refl _ _⟩
  · have z0 : ((zs.length : Int) == 0) = false := beq_false_of_ne (by omega)
    rcases Nat.lt_or_ge 64 zs.length with h1 | h1
    · have h1' : (64 : Int) < (zs.length : Int) := by omega
      have H1 := Lib.hid h1
      clear h1
      go_enter Tryd.func19, Tryd.ntmps19
      go_wp2_with fail
      go_ret2
      exact ⟨ret_two (crw_full t H1.out).1.symm (crw_full t H1.out).2.symm, Below.refl _ _⟩
    · have h1' : decide ((64 : Int) < (zs.length : Int)) = false := decide_eq_false (by omega)
      have H1 := Lib.hid h1
      have H0 := Lib.hid h0
      clear h0 h1
      go_enter Tryd.func19, Tryd.ntmps19
      go_wp2_with fail
      go_loopw [6] (fun i wr => ∃ k : Nat, k ≤ zs.length ∧ i = .int .i64 k ∧ (∀ j s, j < k → zs[j]? = some s → okC s = true) ∧ Below w.heap.size w wr) (fun i _ => zs.length - (intOf i).toNat)
      case atStart => exact ⟨0, Nat.zero_le _, rfl, fun j t h => absurd h (by omega), Below.refl _ _⟩
      case round =>
        obtain ⟨k, hk, rfl, hv, hbel⟩ := hrel
        have HV := Lib.hid hv
        have HW := Lib.hid hbel
        clear hv hbel
        rcases Nat.lt_or_ge k zs.length with hlt | hge
        · obtain ⟨z, hz⟩ := get_lt hlt
          obtain ⟨b, off, rfl, hb, hc⟩ := HA.out.on HW.out k z hz
          have HZ := Lib.hid hz
          have i1 : (k : Int) < (zs.length : Int) := by omega
          have i2 : (0 : Int) ≤ (k : Int) := by omega
          clear hz
          rcases okC_cases z with ⟨ho, d1⟩ | ⟨ho, d1, d2⟩ | ⟨ho, d1, d2⟩
          · have HO := Lib.hid (crw_bad t H0.out H1.out HZ.out ho)
            clear ho
            go_wp2_with fail
            go_ret2
            exact ⟨ret_two HO.out.1.symm HO.out.2.symm, HW.out⟩
          · have HO := Lib.hid (crw_bad t H0.out H1.out HZ.out ho)
            clear ho
            go_wp2_with fail
            go_ret2
            exact ⟨ret_two HO.out.1.symm HO.out.2.symm, HW.out⟩
          · have HO := Lib.hid ho
            clear ho
            go_wp2_with fail
            go_roundw
            case rel =>
              refine ⟨k + 1, by omega, by go_num, ?_, HW.out⟩
              intro j u hj hu
              rcases Nat.lt_or_eq_of_le (Nat.le_of_lt_succ hj) with h | h
              · exact HV.out j u h hu
              · subst h
                have e := HZ.out
                rw [hu] at e; cases e; exact HO.out
            case measure => simp [intOf]; omega
        · obtain rfl : k = zs.length := by omega
          have HALL := Lib.hid (all_of HV.out)
          cases hmo : mom t with
          | false =>
            have HMO := Lib.hid hmo
            clear hmo
            have HO := Lib.hid (crw_range H0.out H1.out HALL.out HMO.out)
            go_wp2_with fail
            refine (ref_moment t wr).mono ?_
            rintro e w' ⟨rfl, rfl⟩
            rw [HMO.out]
            go_wp2_with fail
            go_ret2
            exact ⟨ret_two HO.out.1.symm HO.out.2.symm, HW.out⟩
          | true =>
            have HMO := Lib.hid hmo
            obtain ⟨n, rfl, hn⟩ := mom_nat hmo
            clear hmo
            obtain ⟨q, hq⟩ : ∃ q, q = n / 28800 := ⟨_, rfl⟩
            obtain ⟨j, hj⟩ : ∃ j, j = q % zs.length := ⟨_, rfl⟩
            have hj2 : j < zs.length := by rw [hj]; exact Nat.mod_lt _ H0.out
            obtain ⟨z, hz⟩ := get_lt hj2
            obtain ⟨b, off, rfl, hb, hc⟩ := HA.out.on HW.out j z hz
            have HO := Lib.hid (crw_ok (n := n) H0.out H1.out HALL.out HMO.out (z := z) (by rw [← hq, ← hj]; exact hz))
            have em : ((q : Int)).tmod (zs.length : Int) = (j : Int) := by rw [hj]; exact tmod_nat _ _
            have em2 : ((q : Int)) % (zs.length : Int) = (j : Int) := by rw [hj]; rfl
            have ed : ((n : Int)) / 28800 = (q : Int) := by rw [hq]; rfl
            have ed2 : ((n : Int)).tdiv 28800 = (q : Int) := by rw [hq]; exact tdiv_nat _ _
            have i1 : (j : Int) < (zs.length : Int) := by omega
            have i2 : (0 : Int) ≤ (j : Int) := by omega
            have n0 : ¬ ((zs.length : Int) = 0) := by have := H0.out; omega
            have q2 : q ≤ 75000 := by omega
            have HQ := Lib.hid hq
            clear hq hj hz
            go_wp2_with fail
            refine (ref_moment _ wr).mono ?_
            rintro e w' ⟨rfl, rfl⟩
            rw [HMO.out]
            go_wp2_with fail
            go_ret2
            exact ⟨ret_two HO.out.1.symm HO.out.2.symm, HW.out⟩
#print axioms clock_Crew
#print axioms ref_Crew
end Go.Proofs.YtngjdclcnocmfaaDoor.Clock
