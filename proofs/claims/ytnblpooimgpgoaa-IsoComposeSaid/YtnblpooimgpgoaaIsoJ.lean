/- Contracts of Check, Length of both, checkBoth, limited, great, Same. -/
import Derived.Test.YtnblpooimgpgoaaIsoI
namespace Go.Proofs.Ytnblpooimgpgoaa.Iso
open Go.ChangeShapes Go.WideShapes Go.RowKit Go.Lib Go.Proofs.Ytnblpooimgpgoaa.Rw
set_option linter.unusedVariables false
set_option maxRecDepth 100000

def eC (L : List Rn) : Int := (errC L : Int)
theorem eC_full {L : List Rn} (h : 256 < L.length) : eC L = 8 := by unfold eC errC; rw [if_pos h]; rfl
theorem eC_bad {i : Nat} {L : List Rn} {r : Rn} (h : ¬ 256 < L.length) (hr : L[i]? = some r) (hb : gd r = false) : eC L = 1 := by unfold eC; rw [errC_bad (by omega) hr hb]; rfl
theorem eC_long {L : List Rn} (h : ¬ 256 < L.length) (ha : ∀ r ∈ L, gd r = true) (hl : ml < lenM L) : eC L = 21 := by unfold eC; rw [errC_good (by omega) ha, if_pos hl]; rfl
theorem eC_ok {L : List Rn} (h : ¬ 256 < L.length) (ha : ∀ r ∈ L, gd r = true) (hl : ¬ ml < lenM L) : eC L = 0 := by unfold eC; rw [errC_good (by omega) ha, if_neg hl]; rfl
theorem Vd.ofE {L : List Rn} (h : eC L = 0) : Vd L := Vd.of (by unfold eC at h; omega)
theorem Vd.eC {L : List Rn} (h : Vd L) : Iso.eC L = 0 := by unfold Iso.eC; rw [h.err]; rfl
theorem gd_lim {r : Rn} (h : gd r = true) : 1 ≤ r.2.1 ∧ r.2.1 ≤ ml := ⟨(gd_iff.mp h).1, (gd_iff.mp h).2.1⟩
theorem gd_any {L : List Rn} (h : ∀ (j : Nat) r, j < L.length → L[j]? = some r → gd r = true) : ∀ r ∈ L, gd r = true := fun r hr => by
  obtain ⟨j, hj⟩ := List.mem_iff_getElem?.mp hr
  exact h j r (glt hj) hj
theorem eC_cases (L : List Rn) : eC L = 0 ∨ eC L = 1 ∨ eC L = 8 ∨ eC L = 21 := by
  unfold eC errC
  repeat' split
  all_goals simp

set_option maxHeartbeats 800000 in
theorem iso_Check (L : List Rn) (A : Option Addr) (c : Nat) (w : World) (ha : Rns w A L) (hm : L.length ≤ 9223372036854775807) :
    Calls Try.prog 14 #[.slice A L.length c] w fun e w' => e = .returned (.int .i64 (eC L)) ∧ Below w.heap.size w w' := by
  have HA := Lib.hid ha
  clear ha
  by_cases hf : 256 < L.length
  · have hf' : (256 : Int) < (L.length : Int) := by omega
    have HF := Lib.hid (eC_full hf)
    clear hf
    go_enter Try.func14, Try.ntmps14
    go_wp2_with fail
    go_ret
    exact ⟨ret_int HF.out.symm, Below.refl _ _⟩
  · have hf' : decide ((256 : Int) < (L.length : Int)) = false := decide_eq_false (by omega)
    have HF := Lib.hid hf
    clear hf
    go_enter Try.func14, Try.ntmps14
    go_wp2_with fail
    go_loopw [10] (fun i wr => ∃ k : Nat, k ≤ L.length ∧ i = .int .i64 k ∧ (∀ j s, j < k → L[j]? = some s → gd s = true) ∧ Below w.heap.size w wr) (fun i _ => L.length - (intOf i).toNat)
    case atStart => exact ⟨0, Nat.zero_le _, rfl, fun j t h => absurd h (by omega), Below.refl _ _⟩
    case round =>
      obtain ⟨k, hk, rfl, hv, hbel⟩ := hrel
      have HV := Lib.hid hv
      have HB := Lib.hid hbel
      clear hv hbel
      rcases Nat.lt_or_ge k L.length with hlt | hge
      · obtain ⟨s, hs⟩ := get_lt hlt
        obtain ⟨b, off, rfl, hb, h0, h1, h2⟩ := rd_at (HA.out.on HB.out) hs
        have HS := Lib.hid hs
        clear hs
        go_wp2_with fail
        refine (iso_inRange _ _ _ _).mono ?_
        rintro e w1 ⟨rfl, hb1⟩
        have HB1 := Lib.hid (bstep (HB.out.alloc HB.out.size _) hb1)
        cases hg : gd (s.1, s.2.1, s.2.2) with
        | false =>
          have HE := Lib.hid (eC_bad HF.out HS.out hg)
          clear hb1
          go_wp2_with fail
          go_ret
          exact ⟨ret_int HE.out.symm, HB1.out⟩
        | true =>
          have HG := Lib.hid hg
          clear hb1
          go_wp2_with fail
          go_roundw
          case rel =>
            refine ⟨k + 1, by omega, by go_num, ?_, HB1.out⟩
            intro j u hj hu
            rcases Nat.lt_or_eq_of_le (Nat.le_of_lt_succ hj) with h | h
            · exact HV.out j u h hu
            · subst h
              have e := HS.out
              rw [hu] at e; cases e; exact HG.out
          case measure => simp [intOf]; omega
      · obtain rfl : k = L.length := by omega
        have HG := Lib.hid (gd_any HV.out)
        go_wp2_with fail
        refine (iso_total L A c _ (HA.out.on HB.out) (by have := HF.out; omega) fun r hr => gd_lim (HG.out r hr)).mono ?_
        rintro e w1 ⟨rfl, hb1⟩
        have HB1 := Lib.hid (bstep HB.out hb1)
        clear hb1
        by_cases hl : ml < lenM L
        · have HE := Lib.hid (eC_long HF.out HG.out hl)
          have d1 : decide (17179869184 < lenM L) = true := decide_eq_true hl
          clear hl
          go_wp2_with fail
          go_ret
          exact ⟨ret_int HE.out.symm, HB1.out⟩
        · have HE := Lib.hid (eC_ok HF.out HG.out hl)
          have d1 : decide (17179869184 < lenM L) = false := decide_eq_false hl
          clear hl
          go_wp2_with fail
          go_ret
          exact ⟨ret_int HE.out.symm, HB1.out⟩

set_option maxHeartbeats 800000 in
theorem ref_Check (L : List Rn) (A : Option Addr) (c : Nat) (w : World) (ha : Rns w A L) (hm : L.length ≤ 9223372036854775807) :
    Calls Try.prog 15 #[.slice A L.length c] w fun e w' => e = .returned (.int .i64 (eC L)) ∧ Below w.heap.size w w' := by
  have HA := Lib.hid ha
  clear ha
  by_cases hf : 256 < L.length
  · have hf' : (256 : Int) < (L.length : Int) := by omega
    have HF := Lib.hid (eC_full hf)
    clear hf
    go_enter Try.func15, Try.ntmps15
    go_wp2_with fail
    go_ret
    exact ⟨ret_int HF.out.symm, Below.refl _ _⟩
  · have hf' : decide ((256 : Int) < (L.length : Int)) = false := decide_eq_false (by omega)
    have HF := Lib.hid hf
    clear hf
    go_enter Try.func15, Try.ntmps15
    go_wp2_with fail
    go_loopw [3] (fun i wr => ∃ k : Nat, k ≤ L.length ∧ i = .int .i64 k ∧ (∀ j s, j < k → L[j]? = some s → gd s = true) ∧ Below w.heap.size w wr) (fun i _ => L.length - (intOf i).toNat)
    case atStart => exact ⟨0, Nat.zero_le _, rfl, fun j t h => absurd h (by omega), Below.refl _ _⟩
    case round =>
      obtain ⟨k, hk, rfl, hv, hbel⟩ := hrel
      have HV := Lib.hid hv
      have HB := Lib.hid hbel
      clear hv hbel
      rcases Nat.lt_or_ge k L.length with hlt | hge
      · obtain ⟨s, hs⟩ := get_lt hlt
        obtain ⟨b, off, rfl, hb, h0, h1, h2⟩ := rd_at (HA.out.on HB.out) hs
        have HS := Lib.hid hs
        have i1 : (k : Int) < (L.length : Int) := by omega
        have i2 : (0 : Int) ≤ (k : Int) := by omega
        clear hs
        go_wp2_with fail
        refine (ref_good _ _ _ _).mono ?_
        rintro e w1 ⟨rfl, hb1⟩
        have HB1 := Lib.hid (bstep HB.out hb1)
        cases hg : gd (s.1, s.2.1, s.2.2) with
        | false =>
          have HE := Lib.hid (eC_bad HF.out HS.out hg)
          clear hb1
          go_wp2_with fail
          go_ret
          exact ⟨ret_int HE.out.symm, HB1.out⟩
        | true =>
          have HG := Lib.hid hg
          clear hb1
          go_wp2_with fail
          go_roundw
          case rel =>
            refine ⟨k + 1, by omega, by go_num, ?_, HB1.out⟩
            intro j u hj hu
            rcases Nat.lt_or_eq_of_le (Nat.le_of_lt_succ hj) with h | h
            · exact HV.out j u h hu
            · subst h
              have e := HS.out
              rw [hu] at e; cases e; exact HG.out
          case measure => simp [intOf]; omega
      · obtain rfl : k = L.length := by omega
        have HG := Lib.hid (gd_any HV.out)
        go_wp2_with fail
        refine (ref_length L A c _ (HA.out.on HB.out) (by have := HF.out; omega) fun r hr => gd_lim (HG.out r hr)).mono ?_
        rintro e w1 ⟨rfl, hb1⟩
        have HB1 := Lib.hid (bstep HB.out hb1)
        clear hb1
        by_cases hl : ml < lenM L
        · have HE := Lib.hid (eC_long HF.out HG.out hl)
          have d1 : decide (17179869184 < lenM L) = true := decide_eq_true hl
          clear hl
          go_wp2_with fail
          go_ret
          exact ⟨ret_int HE.out.symm, HB1.out⟩
        · have HE := Lib.hid (eC_ok HF.out HG.out hl)
          have d1 : decide (17179869184 < lenM L) = false := decide_eq_false hl
          clear hl
          go_wp2_with fail
          go_ret
          exact ⟨ret_int HE.out.symm, HB1.out⟩

def lenV (L : List Rn) : Int := if eC L = 0 then lenM L else 0
theorem ret_two {x y a b : Int} (h : x = a) (h2 : y = b) : Ending.returned (.tuple #[.int .i64 x, .int .i64 y]) = .returned (.tuple #[.int .i64 a, .int .i64 b]) := by rw [h, h2]
theorem ne_tests {E : Int} (h : ¬ E = 0) : (E == 0) = false ∧ (E != 0) = true := by
  have : (E == 0) = false := beq_false_of_ne h
  exact ⟨this, by rw [bne, this]; rfl⟩
theorem Vd.lims {L : List Rn} (h : Vd L) : ∀ r ∈ L, 1 ≤ r.2.1 ∧ r.2.1 ≤ ml := fun r hr => gd_lim (h.all r hr)

set_option maxHeartbeats 400000 in
theorem iso_Length (L : List Rn) (A : Option Addr) (c : Nat) (w : World) (ha : Rns w A L) (hm : L.length ≤ 9223372036854775807) :
    Calls Try.prog 18 #[.slice A L.length c] w fun e w' => e = .returned (.tuple #[.int .i64 (lenV L), .int .i64 (eC L)]) ∧ Below w.heap.size w w' := by
  have HA := Lib.hid ha
  clear ha
  go_enter Try.func18, Try.ntmps18
  go_wp2_with fail
  refine (iso_Check L A c w HA.out hm).mono ?_
  rintro e w1 ⟨rfl, hb1⟩
  have HB1 := Lib.hid hb1
  clear hb1
  by_cases hz : eC L = 0
  · have HV := Lib.hid (Vd.ofE hz)
    have HE := Lib.hid (show lenV L = lenM L from if_pos hz)
    have HZ := Lib.hid hz
    rw [hz]
    clear hz
    go_wp2_with fail
    refine (iso_total L A c w1 (HA.out.on HB1.out) (by have := HV.out.n; omega) HV.out.lims).mono ?_
    rintro e w2 ⟨rfl, hb2⟩
    go_wp2_with fail
    go_ret2
    exact ⟨ret_two HE.out.symm HZ.out.symm, bstep HB1.out hb2⟩
  · obtain ⟨z1, z2⟩ := ne_tests hz
    have HE := Lib.hid (show lenV L = 0 from if_neg hz)
    clear hz
    go_wp2_with fail
    go_ret2
    exact ⟨ret_two HE.out.symm rfl, HB1.out⟩
set_option maxHeartbeats 400000 in
theorem ref_Length (L : List Rn) (A : Option Addr) (c : Nat) (w : World) (ha : Rns w A L) (hm : L.length ≤ 9223372036854775807) :
    Calls Try.prog 19 #[.slice A L.length c] w fun e w' => e = .returned (.tuple #[.int .i64 (lenV L), .int .i64 (eC L)]) ∧ Below w.heap.size w w' := by
  have HA := Lib.hid ha
  clear ha
  go_enter Try.func19, Try.ntmps19
  go_wp2_with fail
  refine (ref_Check L A c w HA.out hm).mono ?_
  rintro e w1 ⟨rfl, hb1⟩
  have HB1 := Lib.hid hb1
  clear hb1
  by_cases hz : eC L = 0
  · have HV := Lib.hid (Vd.ofE hz)
    have HE := Lib.hid (show lenV L = lenM L from if_pos hz)
    have HZ := Lib.hid hz
    rw [hz]
    clear hz
    go_wp2_with fail
    refine (ref_length L A c w1 (HA.out.on HB1.out) (by have := HV.out.n; omega) HV.out.lims).mono ?_
    rintro e w2 ⟨rfl, hb2⟩
    go_wp2_with fail
    go_ret2
    exact ⟨ret_two HE.out.symm HZ.out.symm, bstep HB1.out hb2⟩
  · obtain ⟨z1, z2⟩ := ne_tests hz
    have HE := Lib.hid (show lenV L = 0 from if_neg hz)
    clear hz
    go_wp2_with fail
    go_ret2
    exact ⟨ret_two HE.out.symm rfl, HB1.out⟩
def bothE (a b : List Rn) : Int := if eC a = 0 then eC b else eC a
set_option maxHeartbeats 400000 in
theorem iso_checkBoth (a b : List Rn) (A B : Option Addr) (c d : Nat) (w : World) (ha : Rns w A a) (hb : Rns w B b) (hm : a.length ≤ 9223372036854775807) (hm2 : b.length ≤ 9223372036854775807) :
    Calls Try.prog 57 #[.slice A a.length c, .slice B b.length d] w fun e w' => e = .returned (.int .i64 (bothE a b)) ∧ Below w.heap.size w w' := by
  have HA := Lib.hid ha
  have HB := Lib.hid hb
  clear ha hb
  go_enter Try.func57, Try.ntmps57
  go_wp2_with fail
  refine (iso_Check a A c w HA.out hm).mono ?_
  rintro e w1 ⟨rfl, hb1⟩
  have HB1 := Lib.hid hb1
  clear hb1
  by_cases hz : eC a = 0
  · have HE := Lib.hid (show bothE a b = eC b from if_pos hz)
    have HZ := Lib.hid hz
    rw [hz]
    clear hz
    go_wp2_with fail
    refine (iso_Check b B d w1 (HB.out.on HB1.out) hm2).mono ?_
    rintro e w2 ⟨rfl, hb2⟩
    go_wp2_with fail
    go_ret
    exact ⟨ret_int HE.out.symm, bstep HB1.out hb2⟩
  · obtain ⟨z1, z2⟩ := ne_tests hz
    have HE := Lib.hid (show bothE a b = eC a from if_neg hz)
    clear hz
    go_wp2_with fail
    go_ret
    exact ⟨ret_int HE.out.symm, HB1.out⟩
/-- A map in memory, with its room. -/
def Mp (w : World) (A : Option Addr) (c : Nat) (M : List Rn) : Prop := Rns w A M ∧ M.length ≤ c
/-- A map and an error. -/
def Res (M : List Rn) (E : Int) (w : World) (e : Ending) (w' : World) : Prop :=
  ∃ A c, e = .returned (.tuple #[.slice A M.length c, .int .i64 E]) ∧ Mp w' A c M ∧ Below w.heap.size w w'
def fulE (M : List Rn) : Int := if 256 < M.length then 8 else 0
def fulL (M : List Rn) : List Rn := if 256 < M.length then [] else M
theorem Res.err {E : Int} {w w' : World} (hb : Below w.heap.size w w') : Res [] E w (.returned (.tuple #[.slice none 0 0, .int .i64 E])) w' := ⟨none, 0, rfl, ⟨Rd.nil _ _ _ _, Nat.le_refl _⟩, hb⟩
set_option maxHeartbeats 400000 in
theorem iso_limited (M : List Rn) (A : Option Addr) (c : Nat) (w : World) (ha : Rns w A M) (hc : M.length ≤ c) (hm : M.length ≤ 9223372036854775807) :
    Calls Try.prog 61 #[.slice A M.length c] w (Res (fulL M) (fulE M) w) := by
  have HA := Lib.hid ha
  clear ha
  by_cases hf : 256 < M.length
  · have hf' : (256 : Int) < (M.length : Int) := by omega
    rw [show fulL M = [] from if_pos hf, show fulE M = 8 from if_pos hf]
    clear hf
    go_enter Try.func61, Try.ntmps61
    go_wp2_with fail
    go_ret2
    exact Res.err (Below.refl _ _)
  · have hf' : decide ((256 : Int) < (M.length : Int)) = false := decide_eq_false (by omega)
    rw [show fulL M = M from if_neg hf, show fulE M = 0 from if_neg hf]
    clear hf
    go_enter Try.func61, Try.ntmps61
    go_wp2_with fail
    go_ret2
    exact ⟨A, c, rfl, ⟨HA.out, hc⟩, Below.refl _ _⟩
set_option maxHeartbeats 400000 in
theorem ref_limited (M : List Rn) (A : Option Addr) (c : Nat) (w : World) (ha : Rns w A M) (hc : M.length ≤ c) (hm : M.length ≤ 9223372036854775807) :
    Calls Try.prog 63 #[.slice A M.length c] w (Res (fulL M) (fulE M) w) := by
  have HA := Lib.hid ha
  clear ha
  by_cases hf : 256 < M.length
  · have hf' : (256 : Int) < (M.length : Int) := by omega
    rw [show fulL M = [] from if_pos hf, show fulE M = 8 from if_pos hf]
    clear hf
    go_enter Try.func63, Try.ntmps63
    go_wp2_with fail
    go_ret2
    exact Res.err (Below.refl _ _)
  · have hf' : decide ((256 : Int) < (M.length : Int)) = false := decide_eq_false (by omega)
    rw [show fulL M = M from if_neg hf, show fulE M = 0 from if_neg hf]
    clear hf
    go_enter Try.func63, Try.ntmps63
    go_wp2_with fail
    go_ret2
    exact ⟨A, c, rfl, ⟨HA.out, hc⟩, Below.refl _ _⟩
theorem iso_great (L : List Rn) (A : Option Addr) (c : Nat) (w : World) (hm : L.length ≤ 9223372036854775807) {r : Bool} (hr : decide (300 < L.length) = r) :
    Calls Try.prog 12 #[.slice A L.length c] w fun e w' => e = .returned (.bool r) ∧ w = w' := by
  have hr' : decide ((300 : Int) < (L.length : Int)) = r := by
    rw [← hr, Bool.eq_iff_iff]; simp; omega
  clear hr
  go_enter Try.func12, Try.ntmps12
  go_wp2_with fail
  go_ret
  exact ⟨rfl, rfl⟩
#print axioms iso_Check
#print axioms ref_Check
end Go.Proofs.Ytnblpooimgpgoaa.Iso
