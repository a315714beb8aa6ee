/- FibreMasses, FibreSums: the theorems of the stage. -/
import Derived.Test.YtgomokdklajlcaaPk16
namespace Go.Proofs.Ytgomokdklajlcaa.Fibre
open Go.ChangeShapes Go.WideShapes Go.RowKit Go.Lib
open Go.Proofs.Ytgomokdklajlcaa.Mem (Cl eI Own)
open Go.Proofs.Ytgomokdklajlcaa.Rw (Rd glt get_lt ret_bool ret_int wrap_id bstep below_drewN below_drew drew_below below_alloc)
open Go.Proofs.Ytgomokdklajlcaa.Share (sumK sumK_succ sumK_zero partsL partsL_len partsL_at wf wf_at sm part quo rst lft rank quo_rst rst_lt part_near)
set_option linter.unusedVariables false
set_option maxRecDepth 100000

/-! ### Masses -/
theorem sumK_parts (t : Int) (r : List Int) : ∀ k, k ≤ r.length → sumK (partsL t r) k = (Share.sm (Share.part t.toNat (wf r) r.length) k : Int)
  | 0, _ => rfl
  | k + 1, h => by rw [sumK_succ (partsL_at t (by omega)), sumK_parts t r k (by omega), Share.sm]; simp
theorem parts_near {mass : Int} {r : List Int} (h : Rcp mass r) {k : Nat} {x y : Int} (hx : (partsL mass r)[k]? = some x) (hy : r[k]? = some y) : -1000 < 1000 * x - y * mass ∧ 1000 * x - y * mass < 1000 := by
  have hk : k < r.length := glt hy
  rw [partsL_at mass hk] at hx
  have hx' := Option.some.inj hx
  have h1 := quo_rst (T := mass.toNat) (w := wf r) (n := r.length) k
  have h2 := rst_lt (T := mass.toNat) (w := wf r) (n := r.length) (by rw [h.tw]; decide) k
  have h3 := part_near (T := mass.toNat) (w := wf r) (n := r.length) (by rw [h.tw]; decide) k
  rw [h.tw] at h1 h2
  have h4 := wf_at hy (h.all y (List.mem_of_getElem? hy)).1
  have h5 : ((mass.toNat * wf r k : Nat) : Int) = y * mass := by rw [Int.natCast_mul, h4, Int.toNat_of_nonneg h.t0, Int.mul_comm]
  generalize mass.toNat * wf r k = P at h1 h5
  generalize y * mass = Q at h5 ⊢
  split at h3 <;> omega
structure MasOk (mass : Int) (r m : List Int) : Prop where
  len : m.length = r.length
  n8 : m.length ≤ 8
  m0 : 0 ≤ mass
  m1 : mass ≤ MM
  rl : ∀ z ∈ r, 0 ≤ z ∧ z ≤ 1000
  ml : ∀ z ∈ m, 0 ≤ z ∧ z ≤ mass
  near : ∀ (k : Nat) (x y : Int), m[k]? = some x → r[k]? = some y → -1000 < 1000 * x - y * mass ∧ 1000 * x - y * mass < 1000
  sum : sumZ m = mass
  tE : totE m = 0
  tV : totV m = mass
  nz : mass = 0 → neaE m r 1 = 10 ∧ neaV m r 1 = false
  nn : ¬ mass = 0 → neaE m r 1 = 0
  nv : 1000 ≤ mass → neaV m r 1 = true
theorem masOk {r : List Int} {mass : Int} (h : masE r mass = 0) : MasOk mass r (masL r mass) := by
  obtain ⟨h1, h2, h3⟩ := masE_of h
  obtain ⟨-, e, hp⟩ := masE_ok h1 (inM_iff.mpr ⟨h2, h3⟩)
  rw [e]
  have hl := partsL_len mass r
  have hml : ∀ z ∈ partsL mass r, 0 ≤ z ∧ z ≤ mass := fun z hz => by
    obtain ⟨k, hk⟩ := List.mem_iff_getElem?.mp hz
    have hlt : k < r.length := by rw [← hl]; exact glt hk
    rw [partsL_at mass hlt] at hk
    have := hp.ok.part_le hlt
    have := Option.some.inj hk
    omega
  have hs : sumZ (partsL mass r) = mass := by
    unfold sumZ
    rw [sumK_parts mass r _ (by omega), hl]
    exact hp.ok.parts
  have n0 := hp.n0
  have n1 := hp.n1
  have hpar : parE (partsL mass r) (lenI r) = 0 := lisE_mk (by unfold lenI; omega) (by unfold lenI; omega) (by unfold lenI; rw [hl]) fun z hz => by have := hml z hz; omega
  have htE : totE (partsL mass r) = 0 := by
    unfold totE
    rw [show lenI (partsL mass r) = lenI r by unfold lenI; rw [hl]]
    exact hpar
  refine ⟨hl, by omega, h2, h3, hp.all, hml, fun k x y => parts_near hp, hs, htE, ?_, fun h0 => ?_, fun h0 => ?_, fun h0 => ?_⟩
  · unfold totV; rw [if_pos htE]; exact hs
  · exact nea_nil h1 hpar rfl (by rw [hs]; exact h0)
  · exact (nea_ok h1 hpar rfl (by rw [hs]; exact h0)).1
  · rw [(nea_ok h1 hpar rfl (by rw [hs]; omega)).2, hs]
    refine neaB_ok fun k x y hx hy => ?_
    have := parts_near hp hx hy
    exact nea1_yes (by rw [Int.one_mul]; omega) (by rw [Int.one_mul]; omega)
set_option maxHeartbeats 6400000 in
theorem walk_FibreMasses (w : World) (A : Option Addr) (n c : Nat) (L : List Int) (h : InInts .i64 w A n c L) (mass : Int) :
    Calls Try.prog 9 #[.slice A n c, .int .i64 mass] w fun e w' => e = .returned (.bool true) ∧ Below w.heap.size w w' := by
  obtain ⟨hcl, hn, hm⟩ := in_cl h
  have HL := Lib.hid hcl
  have Hn := Lib.hid hn
  have Mn := Lib.hid hm
  clear hcl hn h
  clear hm
  have KGn := Lib.hid fun W => law_great A n c W Mn.out
  by_cases hgn : 60 < n
  · rw [decide_eq_true hgn] at KGn
    clear hgn
    go_enter Try.func9, Try.ntmps9
    go_wp2_with fail
    refine (KGn.out w).mono ?_
    rintro e w1 ⟨rfl, hb⟩
    have B1 := Lib.hid hb
    clear hb
    go_wp2_with fail
    refine (law_awake w1).mono ?_
    rintro e w2 ⟨rfl, hb⟩
    have B2 := Lib.hid (bstep B1.out hb)
    clear hb
    go_wp2_with fail
    go_ret
    exact ⟨rfl, B2.out⟩
  rw [decide_eq_false hgn] at KGn
  have K1 := Lib.hid fun (W : World) (h : Cl eI W A L) => fibre_Masses L A n c Hn.out mass W h (by omega)
  obtain ⟨T, hT⟩ : ∃ T, masL L mass = T := ⟨_, rfl⟩
  by_cases hE : masE L mass = 0
  rotate_left
  · obtain ⟨z1, z2⟩ := ne_zero hE
    have hT2 : masL L mass = [] := if_neg hE
    obtain ⟨E, hE2⟩ : ∃ E, masE L mass = E := ⟨_, rfl⟩
    rw [hT] at hT2
    subst hT2
    rw [hE2] at z1 z2 K1
    rw [hT] at K1
    clear hE hE2 hT hgn
    go_enter Try.func9, Try.ntmps9
    go_wp2_with fail
    refine (KGn.out w).mono ?_
    rintro e w1 ⟨rfl, hb⟩
    have B1 := Lib.hid hb
    replace HL := Lib.hid (HL.out.on hb)
    clear hb
    go_wp2_with fail
    refine (K1.out w1 HL.out).mono ?_
    rintro e w2 ⟨v, rfl, ho, hb⟩
    have B2 := Lib.hid (bstep B1.out hb)
    obtain ⟨A1, c1, rfl, -, -⟩ := ho.inS.open_
    obtain ⟨t, ht⟩ : ∃ t, t = ([] : List Int).length := ⟨_, rfl⟩
    rw [← ht]
    have t0 : ((t : Int) == 0) = true := by rw [ht]; rfl
    clear hb ho ht
    go_wp2_with fail
    refine (law_awake w2).mono ?_
    rintro e w3 ⟨rfl, hb⟩
    have B3 := Lib.hid (bstep B2.out hb)
    clear hb
    go_wp2_with fail
    go_ret
    exact ⟨rfl, B3.out⟩
  have hok := masOk hE
  rw [hE, hT] at K1
  rw [hT] at hok
  have hMM : MM = 1099511627776 := rfl
  have Ht := Lib.hid (show n = T.length by rw [hok.len]; exact Hn.out)
  have K3 := Lib.hid fun (W : World) (A' : Option Addr) (c' : Nat) (h : Cl eI W A' T) => fibre_Total T A' n c' Ht.out W h (by omega)
  have K4 := Lib.hid fun (W : World) (A' : Option Addr) (c' : Nat) (h : Cl eI W A' T) (k : Cl eI W A L) => fibre_Near T L A' A n n c' c Ht.out Hn.out 1 W h k (by omega) (by omega)
  rw [hok.tE, hok.tV] at K3
  have b0 : decide (mass < 0) = false := decide_eq_false (by have := hok.m0; omega)
  have b1 : decide (1099511627776 < mass) = false := decide_eq_false (by have := hok.m1; omega)
  have nn : ((n : Int) != (n : Int)) = false := by simp
  have OK := Lib.hid hok
  clear hE hT hgn hok hMM
  go_enter Try.func9, Try.ntmps9
  go_wp2_with fail
  refine (KGn.out w).mono ?_
  rintro e w1 ⟨rfl, hb⟩
  have B1 := Lib.hid hb
  replace HL := Lib.hid (HL.out.on hb)
  clear hb
  go_wp2_with fail
  refine (K1.out w1 HL.out).mono ?_
  rintro e w2 ⟨v, rfl, ho, hb⟩
  have B2 := Lib.hid (bstep B1.out hb)
  replace HL := Lib.hid (HL.out.on hb)
  obtain ⟨A1, c1, rfl, hl1, hc1⟩ := ho.inS.open_
  have R1 := Lib.hid hc1
  rw [← Ht.out] at hl1 ⊢
  clear ho hc1 hb
  go_wp2_with fail
  go_loopw [7, 8] (fun s i wr => ∃ (k : Nat) (S : Int), k ≤ n ∧ S = sumK T k ∧ s = .int .i64 S ∧ i = .int .i64 k ∧ Below w2.heap.size w2 wr) (fun _ i _ => n - (RowKit.intOf i).toNat)
  case atStart => exact ⟨0, 0, Nat.zero_le _, rfl, rfl, rfl, Below.refl _ _⟩
  case round =>
    obtain ⟨k, S, hk, hS, rfl, rfl, hbel⟩ := hrel
    have HW := Lib.hid hbel
    clear hbel
    rcases Nat.lt_or_ge k n with hlt | hge
    · obtain ⟨x, hx⟩ := get_lt (L := T) (k := k) (by have := Ht.out; omega)
      obtain ⟨y, hy⟩ := get_lt (L := L) (k := k) (by have := Hn.out; omega)
      obtain ⟨u1, o1, hA1, hb1, h0⟩ := cl_at (R1.out.on HW.out) hx
      obtain ⟨u2, o2, hA2, hb2, h3⟩ := cl_at (HL.out.on HW.out) hy
      subst hA1
      subst hA2
      have hxl := OK.out.ml x (List.mem_of_getElem? hx)
      have hyl := OK.out.rl y (List.mem_of_getElem? hy)
      have hnr := OK.out.near k x y hx hy
      have hm1 := OK.out.m1
      have hm0 := OK.out.m0
      have hn8 := OK.out.n8
      have hM : MM = 1099511627776 := rfl
      have hsl := sumK_lim (most := 1099511627776) (l := T) (fun z hz => by have := OK.out.ml z hz; omega) k (by have := Ht.out; omega)
      have hmk : 1099511627776 * (k : Int) ≤ 8796093022208 := by have := Ht.out; omega
      have i1 : (k : Int) < (n : Int) := by omega
      have i2 : (0 : Int) ≤ (k : Int) := by omega
      have hyT : y * mass ≤ 1099511627776000 := by
        have h1 : y * mass ≤ 1000 * mass := Int.mul_le_mul_of_nonneg_right hyl.2 hm0
        omega
      have hyT0 : 0 ≤ y * mass := Int.mul_nonneg hyl.1 hm0
      obtain ⟨P1, hP1⟩ : ∃ P, 1000 * x = P := ⟨_, rfl⟩
      obtain ⟨P2, hP2⟩ : ∃ P, y * mass = P := ⟨_, rfl⟩
      obtain ⟨D, hD⟩ : ∃ D, P1 - P2 = D := ⟨_, rfl⟩
      obtain ⟨S2, hS2⟩ : ∃ S2, S + x = S2 := ⟨_, rfl⟩
      rw [hP2] at hyT hyT0 hnr
      rw [hP1] at hnr
      rw [hD] at hnr
      rw [← hS] at hsl
      have w1' : IntKind.i64.wrap P1 = P1 := wrap_id (by omega)
      have w2' : IntKind.i64.wrap P2 = P2 := wrap_id (by omega)
      have w3' : IntKind.i64.wrap D = D := wrap_id (by omega)
      have w4' : IntKind.i64.wrap S2 = S2 := wrap_id (by omega)
      have t1 : decide (x < 0) = false := decide_eq_false (by omega)
      have t2 : decide (mass < x) = false := decide_eq_false (by omega)
      have t3 : decide (D ≤ -1000) = false := decide_eq_false (by omega)
      have t4 : decide (1000 ≤ D) = false := decide_eq_false (by omega)
      have HS2 := Lib.hid (show S2 = sumK T (k + 1) by rw [sumK_succ hx, ← hS, hS2])
      clear hx hy hxl hyl hnr hm1 hm0 hn8 hM hsl hmk hyT hyT0 hS
      go_wp2_with fail
      go_quiet (fail)
      go_wp2_with fail
      go_roundw
      case rel => exact ⟨k + 1, S2, by omega, HS2.out, rfl, by go_num, below_drewN HW.out _⟩
      case measure => simp [RowKit.intOf]; omega
    · obtain rfl : k = n := by omega
      have hSm : S = mass := by
        have h1 := OK.out.sum
        unfold sumZ at h1
        rw [← Ht.out] at h1
        rw [hS, h1]
      clear hS
      subst hSm
      have ss : (S != S) = false := by simp
      replace R1 := Lib.hid (R1.out.on HW.out)
      replace HL := Lib.hid (HL.out.on HW.out)
      have B3 := Lib.hid (bstep B2.out HW.out)
      rename_i wr _
      by_cases hz : S = 0
      · have m1 : (S == 0) = true := beq_iff_eq.mpr hz
        obtain ⟨e1, e2⟩ := OK.out.nz hz
        rw [e1, e2] at K4
        clear e1 e2 hz
        go_wp2_with fail
        refine (K3.out _ A1 c1 R1.out).mono ?_
        rintro e w4 ⟨rfl, hb⟩
        have B4 := Lib.hid (bstep B3.out hb)
        replace R1 := Lib.hid (R1.out.on hb)
        replace HL := Lib.hid (HL.out.on hb)
        clear hb
        go_wp2_with fail
        refine (K4.out _ A1 c1 R1.out HL.out).mono ?_
        rintro e w5 ⟨rfl, hb⟩
        have B5 := Lib.hid (bstep B4.out hb)
        clear hb
        go_wp2_with fail
        refine (law_awake w5).mono ?_
        rintro e w6 ⟨rfl, hb⟩
        have B6 := Lib.hid (bstep B5.out hb)
        clear hb
        go_wp2_with fail
        go_ret
        exact ⟨rfl, B6.out⟩
      · have m1 : (S == 0) = false := beq_false_of_ne hz
        have e1 := OK.out.nn hz
        have hv : ¬ S < 1000 → neaV T L 1 = true := fun h => OK.out.nv (by omega)
        obtain ⟨V, hV⟩ : ∃ V, neaV T L 1 = V := ⟨_, rfl⟩
        rw [hV] at hv
        rw [e1, hV] at K4
        clear e1 hz hV
        by_cases hg : S < 1000
        · have m2 : decide (S < 1000) = true := decide_eq_true hg
          clear hv hg
          go_wp2_with fail
          refine (K3.out _ A1 c1 R1.out).mono ?_
          rintro e w4 ⟨rfl, hb⟩
          have B4 := Lib.hid (bstep B3.out hb)
          replace R1 := Lib.hid (R1.out.on hb)
          replace HL := Lib.hid (HL.out.on hb)
          clear hb
          go_wp2_with fail
          refine (K4.out _ A1 c1 R1.out HL.out).mono ?_
          rintro e w5 ⟨rfl, hb⟩
          have B5 := Lib.hid (bstep B4.out hb)
          clear hb
          go_wp2_with fail
          refine (law_awake w5).mono ?_
          rintro e w6 ⟨rfl, hb⟩
          have B6 := Lib.hid (bstep B5.out hb)
          clear hb
          go_wp2_with fail
          go_ret
          exact ⟨rfl, B6.out⟩
        · have m2 : decide (S < 1000) = false := decide_eq_false hg
          obtain rfl := hv hg
          clear hv hg
          go_wp2_with fail
          refine (K3.out _ A1 c1 R1.out).mono ?_
          rintro e w4 ⟨rfl, hb⟩
          have B4 := Lib.hid (bstep B3.out hb)
          replace R1 := Lib.hid (R1.out.on hb)
          replace HL := Lib.hid (HL.out.on hb)
          clear hb
          go_wp2_with fail
          refine (K4.out _ A1 c1 R1.out HL.out).mono ?_
          rintro e w5 ⟨rfl, hb⟩
          have B5 := Lib.hid (bstep B4.out hb)
          clear hb
          go_wp2_with fail
          refine (law_awake w5).mono ?_
          rintro e w6 ⟨rfl, hb⟩
          have B6 := Lib.hid (bstep B5.out hb)
          clear hb
          go_wp2_with fail
          go_ret
          exact ⟨rfl, B6.out⟩
#print axioms walk_FibreMasses
end Go.Proofs.Ytgomokdklajlcaa.Fibre
