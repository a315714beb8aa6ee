/- Marks in memory; Check of both. -/
import Derived.Test.YtkbnhmgladkojaaAlignD
import Derived.Test.YtkbnhmgladkojaaRowC
namespace Go.Proofs.Ytkbnhmgladkojaa.Align
open Go.ChangeShapes Go.WideShapes Go.RowKit Go.Lib Go.Proofs.Ytkbnhmgladkojaa.Rw
set_option linter.unusedVariables false
set_option maxRecDepth 100000

/-- A mark's cells. -/
abbrev cM (m : Mk) : List Value := [.int .i64 m.1, .int .i64 m.2]
theorem cM_len (m : Mk) : (cM m).length = 2 := rfl
abbrev Mks (w : World) (A : Option Addr) (L : List Mk) : Prop := Rd cM 2 w A L
theorem rd_at {w : World} {A : Option Addr} {L : List Mk} (h : Mks w A L) {k : Nat} {m : Mk} (hr : L[k]? = some m) : ∃ b off, A = some ⟨b, off, none⟩ ∧ b < w.heap.size ∧
    w.cell? ⟨b, off + k * 2, none⟩ = some (.int .i64 m.1) ∧ w.cell? ⟨b, off + k * 2 + 1, none⟩ = some (.int .i64 m.2) := by
  obtain ⟨b, off, e, hlt, hc⟩ := h k m hr
  exact ⟨b, off, e, hlt, hc 0 _ rfl, hc 1 _ rfl⟩
theorem rd_ne {w : World} {A : Option Addr} {L : List Mk} (h : Mks w A L) (h0 : 0 < L.length) : ∃ b off, A = some ⟨b, off, none⟩ ∧ b < w.heap.size := by
  obtain ⟨m, hm⟩ := get_lt h0
  obtain ⟨b, off, e, hlt, -⟩ := h 0 m hm
  exact ⟨b, off, e, hlt⟩

theorem at_k {w : World} {b off : Nat} {L : List Mk} (h : Mks w (some ⟨b, off, none⟩) L) {k : Nat} {m : Mk} (hr : L[k]? = some m) :
    w.cell? ⟨b, off + k * 2, none⟩ = some (.int .i64 m.1) ∧ w.cell? ⟨b, off + k * 2 + 1, none⟩ = some (.int .i64 m.2) := by
  obtain ⟨b', off', e, -, h0, h1⟩ := rd_at h hr
  cases e
  exact ⟨h0, h1⟩
theorem at_k1 {w : World} {b off : Nat} {L : List Mk} (h : Mks w (some ⟨b, off, none⟩) L) {k : Nat} {m : Mk} (hr : L[k + 1]? = some m) :
    w.cell? ⟨b, off + 2 + k * 2, none⟩ = some (.int .i64 m.1) ∧ w.cell? ⟨b, off + 2 + k * 2 + 1, none⟩ = some (.int .i64 m.2) := by
  obtain ⟨h0, h1⟩ := at_k h hr
  rw [show off + (k + 1) * 2 = off + 2 + k * 2 by omega] at h0 h1
  exact ⟨h0, h1⟩

theorem rd_lt {w : World} {b off : Nat} {L : List Mk} (h : Mks w (some ⟨b, off, none⟩) L) {k : Nat} {m : Mk} (hr : L[k]? = some m) : b < w.heap.size := by
  obtain ⟨b', off', e, hlt, -, -⟩ := rd_at h hr
  cases e
  exact hlt

/-! ### Check -/
def rB (x : Int) : Bool := decide (0 ≤ x) && decide (x ≤ 17179869184)
theorem rB_iff {x : Int} : rB x = true ↔ 0 ≤ x ∧ x ≤ 17179869184 := by unfold rB; simp only [Bool.and_eq_true, decide_eq_true_iff]
theorem inM_rB (m : Mk) : inM m = (rB m.1 && rB m.2) := by unfold inM rB; rw [Bool.and_assoc]
theorem chk_full {L : List Mk} (h : 64 < L.length) : chkA L = 8 := by unfold chkA; rw [if_pos h]
theorem chk_few {L : List Mk} (h : L.length < 2) : chkA L = 10 := by unfold chkA; rw [if_neg (by omega), if_pos h]
theorem chk_range {L : List Mk} (h1 : ¬ 64 < L.length) (h2 : ¬ L.length < 2) {k : Nat} {m : Mk} (hm : L[k]? = some m) (hb : inM m = false) : chkA L = 1 := by
  unfold chkA
  have : ¬ L.all inM = true := fun h => by
    have := List.all_eq_true.mp h m (List.mem_of_getElem? hm)
    rw [hb] at this; cases this
  rw [if_neg h1, if_neg h2, if_neg this]
theorem all_in {L : List Mk} (h : ∀ (j : Nat) (s : Mk), j < L.length → L[j]? = some s → inM s = true) : L.all inM = true := by
  rw [List.all_eq_true]
  intro x hx
  obtain ⟨j, hj⟩ := List.mem_iff_getElem?.mp hx
  exact h j x (glt hj) hj
theorem gro_pair : ∀ {r : List Mk} {m : Mk}, Gro m r → ∀ {k : Nat} {p n : Mk}, (m :: r)[k]? = some p → (m :: r)[k + 1]? = some n → Aft p n
  | [], m, _, k, p, n, _, hn => by simp at hn
  | q :: r, m, h, 0, p, n, hp, hn => by
    simp at hp hn; subst hp hn; exact h.1
  | q :: r, m, h, k + 1, p, n, hp, hn => by
    rw [List.getElem?_cons_succ] at hp hn
    exact gro_pair h.2 hp hn
theorem gro_all : ∀ {r : List Mk} {m : Mk}, (∀ (k : Nat) (p n : Mk), (m :: r)[k]? = some p → (m :: r)[k + 1]? = some n → Aft p n) → Gro m r
  | [], _, _ => trivial
  | n :: r, m, h => ⟨h 0 m n rfl rfl, gro_all fun k p q hp hq => h (k + 1) p q (by rw [List.getElem?_cons_succ]; exact hp) (by rw [List.getElem?_cons_succ]; exact hq)⟩
theorem chk_order {L : List Mk} (h1 : ¬ 64 < L.length) (h2 : ¬ L.length < 2) (ha : L.all inM = true) {k : Nat} {p n : Mk} (hp : L[k]? = some p) (hn : L[k + 1]? = some n) (hb : ¬ Aft p n) : chkA L = 9 := by
  unfold chkA
  have : ¬ groL L = true := fun h => by
    cases L with
    | nil => simp at hp
    | cons m r => exact hb (gro_pair (groB_iff.mp h) hp hn)
  rw [if_neg h1, if_neg h2, if_pos ha, if_neg this]
theorem chk_ok {L : List Mk} (h1 : ¬ 64 < L.length) (h2 : ¬ L.length < 2) (ha : L.all inM = true) (hg : ∀ (k : Nat) (p n : Mk), k + 1 < L.length → L[k]? = some p → L[k + 1]? = some n → Aft p n) : chkA L = 0 := by
  unfold chkA
  have : groL L = true := by
    cases L with
    | nil => rfl
    | cons m r => exact groB_iff.mpr (gro_all fun k p n hp hn => hg k p n (glt hn) hp hn)
  rw [if_neg h1, if_neg h2, if_pos ha, if_pos this]

theorem align_inRange (x : Int) (w : World) :
    Calls Try.prog 27 #[.int .i64 x] w fun e w' => e = .returned (.bool (rB x)) ∧ w = w' := by
  rcases Int.lt_or_le x 0 with h | h
  · have d1 : decide (0 ≤ x) = false := decide_eq_false (by omega)
    have E : Hid (rB x = false) := Lib.hid (by unfold rB; rw [d1]; rfl)
    clear h
    go_enter Try.func27, Try.ntmps27
    go_wp2_with fail
    go_ret
    exact ⟨ret_bool E.out.symm, rfl⟩
  · have d1 : decide (0 ≤ x) = true := decide_eq_true h
    obtain ⟨b, hb⟩ : ∃ b, decide (x ≤ 17179869184) = b := ⟨_, rfl⟩
    have E : Hid (rB x = b) := Lib.hid (by unfold rB; rw [d1, hb]; rfl)
    clear h
    go_enter Try.func27, Try.ntmps27
    go_wp2_with fail
    go_ret
    exact ⟨ret_bool E.out.symm, rfl⟩

set_option maxHeartbeats 1600000 in
theorem align_Check (L : List Mk) (A : Option Addr) (c : Nat) (w : World) (ha : Mks w A L) (hm : L.length ≤ 9223372036854775807) (hcap : L.length ≤ c) :
    Calls Try.prog 13 #[.slice A L.length c] w fun e w' => e = .returned (.int .i64 (chkA L)) ∧ Below w.heap.size w w' := by
  have HA := Lib.hid ha
  clear ha
  by_cases hf : 64 < L.length
  · have hf' : (64 : Int) < (L.length : Int) := by omega
    have HF := Lib.hid (chk_full hf)
    clear hf hcap
    go_enter Try.func13, Try.ntmps13
    go_wp2_with fail
    go_ret
    exact ⟨ret_int HF.out.symm, Below.refl _ _⟩
  have hf' : decide ((64 : Int) < (L.length : Int)) = false := decide_eq_false (by omega)
  by_cases h2 : L.length < 2
  · have h2' : (L.length : Int) < 2 := by omega
    have HF := Lib.hid (chk_few h2)
    clear hf h2 hcap
    go_enter Try.func13, Try.ntmps13
    go_wp2_with fail
    go_ret
    exact ⟨ret_int HF.out.symm, Below.refl _ _⟩
  have h2' : decide ((L.length : Int) < 2) = false := decide_eq_false (by omega)
  have HF := Lib.hid hf
  have H2 := Lib.hid h2
  have HC := Lib.hid hcap
  clear hf h2 hcap
  go_enter Try.func13, Try.ntmps13
  go_wp2_with fail
  go_loopw [16] (fun i wr => ∃ k : Nat, k ≤ L.length ∧ i = .int .i64 k ∧ (∀ j s, j < k → L[j]? = some s → inM s = true) ∧ Below w.heap.size w wr) (fun i _ => L.length - (intOf i).toNat)
  case atStart => exact ⟨0, Nat.zero_le _, rfl, fun j t h => absurd h (by omega), Below.refl _ _⟩
  case round =>
    obtain ⟨k, hk, rfl, hv, hbel⟩ := hrel
    have HV := Lib.hid hv
    have HB := Lib.hid hbel
    clear hv hbel
    rcases Nat.lt_or_ge k L.length with hlt | hge
    · obtain ⟨s, hs⟩ := get_lt hlt
      obtain ⟨b, off, rfl, hb, h0, h1⟩ := rd_at (HA.out.on HB.out) hs
      have HS := Lib.hid hs
      have HI := Lib.hid (inM_rB s)
      clear hs
      go_wp2_with fail
      refine (align_inRange _ _).mono ?_
      rintro e w1 ⟨rfl, rfl⟩
      have HB1 := Lib.hid (HB.out.alloc HB.out.size (.cells #[.int .i64 s.1, .int .i64 s.2] 41))
      cases hg : rB s.1 with
      | false =>
        have HE := Lib.hid (chk_range HF.out H2.out HS.out (by rw [HI.out, hg]; rfl))
        go_wp2_with fail
        go_ret
        exact ⟨ret_int HE.out.symm, HB1.out⟩
      | true =>
        go_wp2_with fail
        refine (align_inRange _ _).mono ?_
        rintro e w1 ⟨rfl, rfl⟩
        cases hg2 : rB s.2 with
        | false =>
          have HE := Lib.hid (chk_range HF.out H2.out HS.out (by rw [HI.out, hg, hg2]; rfl))
          go_wp2_with fail
          go_ret
          exact ⟨ret_int HE.out.symm, HB1.out⟩
        | true =>
          have HG := Lib.hid (show inM s = true by rw [HI.out, hg, hg2]; rfl)
          go_wp2_with fail
          go_roundw
          case rel =>
            refine ⟨k + 1, by omega, by go_num, ?_, HB1.out⟩
            intro j u hj hu
            rcases Nat.lt_or_eq_of_le (Nat.le_of_lt_succ hj) with h | h
            · exact HV.out j u h hu
            · subst h
              have e := HS.out
              rw [hu] at e; cases e; exact HG.out
          case measure => simp [intOf]; omega
    · obtain rfl : k = L.length := by omega
      have HG := Lib.hid (all_in HV.out)
      have l2 : 1 ≤ L.length := by have := H2.out; omega
      have l3 : (1 : Int) ≤ (L.length : Int) := by omega
      have l4 : L.length ≤ c := HC.out
      have l5 : (L.length : Int) ≤ (c : Int) := by omega
      have l6 : 1 ≤ c := by omega
      have l7 : (1 : Int) ≤ (c : Int) := by omega
      have l8 : ¬ c = 1 := by have := H2.out; omega
      obtain ⟨b, off, rfl, hb⟩ := rd_ne (HA.out.on HB.out) (show 0 < L.length by omega)
      obtain ⟨N, hN⟩ : ∃ N, L.length = N + 1 := ⟨L.length - 1, by omega⟩
      go_wp2_with fail
      have HN := Lib.hid hN
      have HA2 := Lib.hid (HA.out.on HB.out)
      have HN1 : Hid ((L.length : Int) = (N : Int) + 1) := Lib.hid (by omega)
      clear l2 l3 l4 l5 l6 l7 l8
      obtain ⟨wq, rfl⟩ : ∃ W, W = wr := ⟨wr, rfl⟩
      go_loopw [34] (fun i wr' => ∃ k : Nat, k ≤ N ∧ i = .int .i64 k ∧ (∀ (j : Nat) (p n : Mk), j < k → L[j]? = some p → L[j + 1]? = some n → Aft p n) ∧ Below w.heap.size w wr') (fun i _ => N - (intOf i).toNat)
      case atStart => exact ⟨0, Nat.zero_le _, rfl, fun j p n h => absurd h (by omega), HB.out⟩
      case round =>
        obtain ⟨k, hk2, rfl, hv2, hbel2⟩ := hrel
        have HV2 := Lib.hid hv2
        have HB2 := Lib.hid hbel2
        clear hv2 hbel2
        rcases Nat.lt_or_ge k N with hlt | hge
        · obtain ⟨p, hp⟩ := get_lt (show k < L.length by have := HN.out; omega)
          obtain ⟨n, hn⟩ := get_lt (show k + 1 < L.length by have := HN.out; omega)
          obtain ⟨c0, c1⟩ := at_k (HA.out.on HB2.out) hp
          obtain ⟨c2, c3⟩ := at_k1 (HA.out.on HB2.out) hn
          have hbb := rd_lt (HA.out.on HB2.out) hp
          have HP := Lib.hid hp
          have HQ := Lib.hid hn
          have i1 : (k : Int) < (N : Int) := by omega
          have i2 : k < N + 1 := by omega
          have i3 : (k : Int) < (N : Int) + 1 := by omega
          have HBW : Hid (Below w.heap.size w ((wr.alloc (.cells #[.int .i64 n.1, .int .i64 n.2] 41)).alloc (.cells #[.int .i64 p.1, .int .i64 p.2] 41))) := (HB2.out.alloc HB2.out.size _).alloc (by have := HB2.out.size; simp; omega) _
          clear hp hn
          rcases Int.lt_or_le p.1 n.1 with ho | ho
          · have d1 : decide (n.1 ≤ p.1) = false := decide_eq_false (by omega)
            rcases Int.lt_or_le p.2 n.2 with ho2 | ho2
            · have d2 : decide (n.2 ≤ p.2) = false := decide_eq_false (by omega)
              have HG2 : Hid (Aft p n) := ⟨ho, ho2⟩
              clear ho ho2
              go_wp2_with fail
              go_roundw
              case rel =>
                refine ⟨k + 1, by omega, by go_num, ?_, HBW.out⟩
                intro j x y hj hx hy
                rcases Nat.lt_or_eq_of_le (Nat.le_of_lt_succ hj) with h | h
                · exact HV2.out j x y h hx hy
                · subst h
                  have e1 := HP.out
                  have e2 := HQ.out
                  rw [hx] at e1; rw [hy] at e2; cases e1; cases e2; exact HG2.out
              case measure => simp [intOf]; omega
            · have d2 : decide (n.2 ≤ p.2) = true := decide_eq_true (by omega)
              have HE := Lib.hid (chk_order HF.out H2.out HG.out HP.out HQ.out (fun h => by have := h.2; omega))
              clear ho ho2
              go_wp2_with fail
              go_ret
              exact ⟨ret_int HE.out.symm, HBW.out⟩
          · have d1 : decide (n.1 ≤ p.1) = true := decide_eq_true (by omega)
            have HE := Lib.hid (chk_order HF.out H2.out HG.out HP.out HQ.out (fun h => by have := h.1; omega))
            clear ho
            go_wp2_with fail
            go_ret
            exact ⟨ret_int HE.out.symm, HBW.out⟩
        · obtain rfl : k = N := by omega
          have HE := Lib.hid (chk_ok HF.out H2.out HG.out fun j p n hj hp hn => HV2.out j p n (by have := HN.out; omega) hp hn)
          go_wp2_with fail
          go_ret
          exact ⟨ret_int HE.out.symm, HB2.out⟩

#print axioms align_Check
end Go.Proofs.Ytkbnhmgladkojaa.Align
