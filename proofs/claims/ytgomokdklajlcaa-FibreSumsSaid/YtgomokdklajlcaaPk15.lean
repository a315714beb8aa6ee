/- Several texts in one: FibreR, FibreP, FibreQ. -/
import Derived.Test.YtgomokdklajlcaaPk14
import Derived.Test.YtgomokdklajlcaaPk4
/- The program: Cost, Near (written by gen16/r.py). -/
namespace Go.Proofs.Ytgomokdklajlcaa.Fibre
open Go.ChangeShapes Go.WideShapes Go.RowKit Go.Lib
open Go.Proofs.Ytgomokdklajlcaa.Mem (Cl eI Own)
open Go.Proofs.Ytgomokdklajlcaa.Rw (Cel glt get_lt ret_bool ret_int wrap_id bstep below_drewN below_drew drew_below below_alloc)
open Go.Proofs.Ytgomokdklajlcaa.Share (sumK)
set_option linter.unusedVariables false
set_option maxRecDepth 100000

set_option maxHeartbeats 3200000 in
theorem fibre_Cost (l : List Fb) (m : List Int) (A B : Option Addr) (n n' c d : Nat) (hn : n = l.length) (hn' : n' = m.length) (w : World) (ha : Kds w A l) (hs : Sz l) (hb : Cl eI w B m) (hm : n ≤ 1000000) (hm2 : n' ≤ 1000000) :
    Calls Try.prog 27 #[.slice A n c, .slice B n' d] w fun e w' => e = .returned (.tuple #[.int .i64 (cosV mdC l m), .int .i64 (cosE mdC l m)]) ∧ Below w.heap.size w w' := by
  have HA := Lib.hid ha
  have HB := Lib.hid hb
  have HCk := Lib.hid (fibre_Check l A n c hn w ha hs hm)
  obtain ⟨F, hF⟩ : ∃ F, chkE l = F := ⟨_, rfl⟩
  rw [hF] at HCk
  by_cases hz : F = 0
  rotate_left
  · obtain ⟨z1, z2⟩ := ne_zero hz
    obtain ⟨e1, e2⟩ := cosE_chk (l := l) (m := m) (by rw [hF]; exact hz)
    rw [e1, e2, hF]
    clear ha hb hs hn hn' hF hz e1 e2
    go_enter Try.func27, Try.ntmps27
    go_wp2_with fail
    refine HCk.out.mono ?_
    rintro e w1 ⟨rfl, hb⟩
    have B1 := Lib.hid hb
    clear hb
    go_wp2_with fail
    go_ret2
    exact ⟨rfl, B1.out⟩
  subst hz
  have HPa := Lib.hid fun (W : World) (h : Cl eI W B m) => fibre_Parts m B n' d hn' n W h hm2
  obtain ⟨G, hG⟩ : ∃ G, parE m (l.length : Int) = G := ⟨_, rfl⟩
  have hG2 : parE m (n : Int) = G := by rw [hn]; exact hG
  rw [hG2] at HPa
  by_cases hz : G = 0
  rotate_left
  · obtain ⟨z1, z2⟩ := ne_zero hz
    obtain ⟨e1, e2⟩ := cosE_par (m := m) hF (by rw [hG]; exact hz)
    rw [e1, e2, hG]
    clear ha hb hs hn hn' hF hG hG2 hz e1 e2
    go_enter Try.func27, Try.ntmps27
    go_wp2_with fail
    refine HCk.out.mono ?_
    rintro e w1 ⟨rfl, hb⟩
    have B1 := Lib.hid hb
    clear hb
    go_wp2_with fail
    refine (HPa.out w1 (HB.out.on B1.out)).mono ?_
    rintro e w2 ⟨rfl, hb⟩
    have B2 := Lib.hid (bstep B1.out hb)
    clear hb
    go_wp2_with fail
    go_ret2
    exact ⟨rfl, B2.out⟩
  subst hz
  obtain ⟨h1, h8, hlm, hml⟩ := lisE_of hG
  have hnn : n' = n := by omega
  have hll : l.length = m.length := by omega
  have HLL := Lib.hid hll
  have HFG := Lib.hid (And.intro hF hG)
  have HN := Lib.hid (And.intro hn hn')
  have HLim := Lib.hid (cosK_lim l m hll)
  have hn8 : n ≤ 8 := by omega
  have HMd : Hid (∀ (x z : Int) (W : World), Calls Try.prog 44 #[.int .i64 x, .int .i64 z, .int .i64 1000000, .int .i64 2] W fun e w' => ∃ E, e = .returned (.tuple #[.int .i64 (mdC x z), .int .i64 E]) ∧ Below W.heap.size W w') := fun x z W =>
    (Num.num_muldiv x z 1000000 2 W).mono fun e w' ⟨h3, h4⟩ => ⟨_, h3, h4⟩
  obtain ⟨E, hE⟩ : ∃ E, cosE mdC l m = E := ⟨_, rfl⟩
  obtain ⟨V, hV⟩ : ∃ V, cosV mdC l m = V := ⟨_, rfl⟩
  have HE := Lib.hid hE
  have HV := Lib.hid hV
  rw [hE, hV]
  subst hnn
  clear ha hb hs hn hn' hF hG hG2 h1 h8 hlm hml hll hE hV
  go_enter Try.func27, Try.ntmps27
  go_wp2_with fail
  refine HCk.out.mono ?_
  rintro e w1 ⟨rfl, hb⟩
  have B1 := Lib.hid hb
  clear hb
  go_wp2_with fail
  refine (HPa.out w1 (HB.out.on B1.out)).mono ?_
  rintro e w2 ⟨rfl, hb⟩
  have B2 := Lib.hid (bstep B1.out hb)
  clear hb
  go_wp2_with fail
  go_loopw [27, 8, 9, 10, 11, 12] (fun i s _ _ _ _ wr => ∃ (k : Nat) (S : Int), k ≤ n' ∧ i = .int .i64 k ∧ s = .int .i64 S ∧ S = cosK mdC l m k ∧ Below w.heap.size w wr) (fun i _ _ _ _ _ _ => n' - (RowKit.intOf i).toNat)
  case atStart => exact ⟨0, 0, Nat.zero_le _, rfl, rfl, rfl, B2.out⟩
  case round =>
    obtain ⟨k, S, hk, rfl, rfl, hS, hbel⟩ := hrel
    have HS := Lib.hid hS
    have HW := Lib.hid hbel
    clear hS hbel
    rcases Nat.lt_or_ge k n' with hlt | hge
    · obtain ⟨f, hf⟩ := get_lt (L := l) (k := k) (by have := HN.out.1; omega)
      obtain ⟨z, hz⟩ := get_lt (L := m) (k := k) (by have := HN.out.2; omega)
      obtain ⟨b1, o1, hA0, hb1, hn0, h0⟩ := kd_at (HA.out.on HW.out) hf
      obtain ⟨b2, o2, hB0, hb2, h3⟩ := cl_at (HB.out.on HW.out) hz
      subst hA0
      subst hB0
      have i1 : (k : Int) < (n' : Int) := by omega
      have i2 : (0 : Int) ≤ (k : Int) := by omega
      obtain ⟨S2, hS2⟩ : ∃ S2, cosK mdC l m (k + 1) = S2 := ⟨_, rfl⟩
      have hl1 := HLim.out (k + 1) (by have := HN.out.1; omega)
      have he := cosK_succ (md := mdC) HLL.out hf hz
      rw [hS2, ← HS.out] at he
      rw [hS2] at hl1
      have HM1 := Lib.hid fun W => HMd.out f.2 z W
      obtain ⟨P, hP⟩ : ∃ P, mdC f.2 z = P := ⟨_, rfl⟩
      rw [hP] at HM1 he
      have wS : IntKind.i64.wrap S2 = S2 := wrap_id (by omega)
      have hs : S + P = S2 := he.symm
      have HS2 := Lib.hid hS2
      clear hf hz hS2 hl1 he hP
      go_upto_region 11 with fail
      generalize hw1 : wr.alloc (.cells #[.string f.1, .int .i64 f.2] TF) = wq
      have HBq : Hid (Below wr.heap.size wr wq) := hw1 ▸ below_alloc _ _
      have HCq : Hid (Cel wq wr.heap.size [.string f.1, .int .i64 f.2]) := hw1 ▸ Cel.new _ _ _
      clear hw1
      have c1 : wq.cell? ⟨wr.heap.size, 1, none⟩ = some (.int .i64 f.2) := HCq.out.at_ 1 _ rfl
      have c2 : wq.cell? ⟨b2, o2 + k, none⟩ = some (.int .i64 z) := (HBq.out.cell (p := ⟨b2, o2 + k, none⟩) hb2).trans h3
      have hb3 : b2 < wq.heap.size := Nat.lt_of_lt_of_le hb2 HBq.out.size
      have HCS : Hid (∀ W, Below wq.heap.size wq W → W.cell? ⟨wr.heap.size, 1, none⟩ = some (.int .i64 f.2) ∧ W.cell? ⟨b2, o2 + k, none⟩ = some (.int .i64 z)) := fun W h =>
        ⟨(h.cell (p := ⟨wr.heap.size, 1, none⟩) HCq.out.lt).trans c1, (h.cell (p := ⟨b2, o2 + k, none⟩) hb3).trans c2⟩
      obtain ⟨sz, hsz⟩ : ∃ s, wr.heap.size = s := ⟨_, rfl⟩
      have HSz := Lib.hid hsz
      rw [hsz] at HCS c1
      rw [hsz]
      clear h0 h3 hb1 hb2 hsz
      go_region_held3 (fun W => W.cell? ⟨sz, 1, none⟩ = some (.int .i64 f.2) ∧ W.cell? ⟨b2, o2 + k, none⟩ = some (.int .i64 z))
        (first | exact HCS.out _ (Below.refl _ _) | exact HCS.out _ (drew_below _) | exact HCS.out _ HBL.out)
        ((go_at_call 44; (refine (HM1.out _).mono ?_); rintro e w3 ⟨E1, rfl, hb3⟩; (have HBL : Hid (Below wq.heap.size wq w3) := Lib.hid (bstep (drew_below _) hb3)); clear hb3))
      all_goals
        have HB5 : Hid (Below w.heap.size w w3) := Lib.hid (bstep HW.out (bstep HBq.out HBL.out))
        go_wp2_with fail
        go_roundw
        case rel => exact ⟨k + 1, S2, by omega, by go_num, rfl, HS2.out.symm, HB5.out⟩
        case measure => simp [RowKit.intOf]; omega
    · obtain rfl : k = n' := by omega
      have HT : Hid (S = cosS mdC l m) := Lib.hid (by rw [HS.out]; exact cosK_all _ _ _ (by rw [← HN.out.1]; exact Nat.le_refl _) (by rw [← HN.out.2]; exact Nat.le_refl _))
      rcases Int.lt_or_le 1000000000000 S with hg | hg
      · have t0 : decide (1000000000000 < S) = true := decide_eq_true hg
        obtain ⟨e1, e2⟩ := cosE_big HFG.out.1 HFG.out.2 (by rw [← HT.out]; exact hg)
        obtain rfl : E = 2 := by rw [← HE.out]; exact e1
        obtain rfl : V = 0 := by rw [← HV.out]; exact e2
        clear hg e1 e2
        go_wp2_with fail
        go_ret2
        exact ⟨rfl, HW.out⟩
      · have t0 : decide (1000000000000 < S) = false := decide_eq_false (by omega)
        obtain ⟨e1, e2⟩ := cosE_ok HFG.out.1 HFG.out.2 (by rw [← HT.out]; omega)
        obtain rfl : E = 0 := by rw [← HE.out]; exact e1
        obtain rfl : V = S := by rw [← HV.out, HT.out]; exact e2
        clear hg e1 e2
        go_wp2_with fail
        go_ret2
        exact ⟨rfl, HW.out⟩

set_option maxHeartbeats 3200000 in
theorem fibre_Near (m r : List Int) (A B : Option Addr) (n n' c d : Nat) (hn : n = m.length) (hn' : n' = r.length) (tol : Int) (w : World) (ha : Cl eI w A m) (hb : Cl eI w B r) (hm : n ≤ 1000000) (hm2 : n' ≤ 1000000) :
    Calls Try.prog 29 #[.slice A n c, .slice B n' d, .int .i64 tol] w fun e w' => e = .returned (.tuple #[.bool (neaV m r tol), .int .i64 (neaE m r tol)]) ∧ Below w.heap.size w w' := by
  have HA := Lib.hid ha
  have HB := Lib.hid hb
  have lr : lenI r = (n' : Int) := by unfold lenI; rw [hn']
  have HRe := Lib.hid (fibre_Recipe r B n' d hn' n' w hb hm2)
  obtain ⟨F, hF⟩ : ∃ F, recE r (lenI r) = F := ⟨_, rfl⟩
  have hF2 : recE r (n' : Int) = F := by rw [← lr]; exact hF
  rw [hF2] at HRe
  by_cases hz : F = 0
  rotate_left
  · obtain ⟨z1, z2⟩ := ne_zero hz
    obtain ⟨e1, e2⟩ := nea_rec (m := m) (tol := tol) (by rw [hF]; exact hz)
    rw [e1, e2, hF]
    clear ha hb hn hn' lr hF hF2 hz e1 e2
    go_enter Try.func29, Try.ntmps29
    go_wp2_with fail
    refine HRe.out.mono ?_
    rintro e w1 ⟨rfl, hb⟩
    have B1 := Lib.hid hb
    clear hb
    go_wp2_with fail
    go_ret2
    exact ⟨rfl, B1.out⟩
  subst hz
  have HPa := Lib.hid fun (W : World) (h : Cl eI W A m) => fibre_Parts m A n c hn n' W h hm
  obtain ⟨G, hG⟩ : ∃ G, parE m (lenI r) = G := ⟨_, rfl⟩
  have hG2 : parE m (n' : Int) = G := by rw [← lr]; exact hG
  rw [hG2] at HPa
  by_cases hz : G = 0
  rotate_left
  · obtain ⟨z1, z2⟩ := ne_zero hz
    obtain ⟨e1, e2⟩ := nea_par (tol := tol) hF (by rw [hG]; exact hz)
    rw [e1, e2, hG]
    clear ha hb hn hn' lr hF hF2 hG hG2 hz e1 e2
    go_enter Try.func29, Try.ntmps29
    go_wp2_with fail
    refine HRe.out.mono ?_
    rintro e w1 ⟨rfl, hb⟩
    have B1 := Lib.hid hb
    clear hb
    go_wp2_with fail
    refine (HPa.out w1 (HA.out.on B1.out)).mono ?_
    rintro e w2 ⟨rfl, hb⟩
    have B2 := Lib.hid (bstep B1.out hb)
    clear hb
    go_wp2_with fail
    go_ret2
    exact ⟨rfl, B2.out⟩
  subst hz
  by_cases ht : inM 1000 tol = true
  rotate_left
  · obtain ⟨e1, e2⟩ := nea_tol hF hG (Bool.eq_false_iff.mpr ht)
    rw [e1, e2]
    have HC := Lib.hid fun W => p_checkNumber tol 1000 W
    rw [nuE_bad (Bool.eq_false_iff.mpr ht)] at HC
    clear ha hb hn hn' lr hF hF2 hG hG2 e1 e2 ht
    go_enter Try.func29, Try.ntmps29
    go_wp2_with fail
    refine HRe.out.mono ?_
    rintro e w1 ⟨rfl, hb⟩
    have B1 := Lib.hid hb
    clear hb
    go_wp2_with fail
    refine (HPa.out w1 (HA.out.on B1.out)).mono ?_
    rintro e w2 ⟨rfl, hb⟩
    have B2 := Lib.hid (bstep B1.out hb)
    clear hb
    go_wp2_with fail
    refine (HC.out _).mono ?_
    rintro e w3 ⟨rfl, rfl⟩
    go_wp2_with fail
    go_ret2
    exact ⟨rfl, B2.out⟩
  have HC := Lib.hid fun W => p_checkNumber tol 1000 W
  rw [nuE_ok ht] at HC
  have htl := inM_iff.mp ht
  obtain ⟨hr1, -⟩ := recE_of hF
  obtain ⟨-, h8, -, hrl⟩ := lisE_of hr1
  obtain ⟨-, -, hml0, hml⟩ := lisE_of hG
  have hnn : n = n' := by rw [lr] at hml0; omega
  subst hnn
  have hn8 : n ≤ 8 := by omega
  have hte : totE m = 0 := by
    have h1 : lenI m = lenI r := by rw [lr]; unfold lenI; omega
    unfold totE; rw [h1]; exact hG
  have htv : totV m = sumZ m := by unfold totV; rw [hte, if_pos rfl]
  have HSm := Lib.hid fun (W : World) (h : Cl eI W A m) => fibre_Total m A n c hn W h hm
  rw [hte, htv] at HSm
  have hsl := sumZ_lim (by decide) hml (by omega)
  obtain ⟨T, hT⟩ : ∃ T, sumZ m = T := ⟨_, rfl⟩
  rw [hT] at HSm hsl
  have hM : MM = 1099511627776 := rfl
  rw [hM] at hsl
  by_cases hT0 : T = 0
  · subst hT0
    obtain ⟨e1, e2⟩ := nea_nil hF hG ht hT
    rw [e1, e2]
    clear ha hb hn hn' lr hF hF2 hG hG2 e1 e2 ht htl hr1 h8 hrl hml0 hml hsl hT hM hte htv
    go_enter Try.func29, Try.ntmps29
    go_wp2_with fail
    refine HRe.out.mono ?_
    rintro e w1 ⟨rfl, hb⟩
    have B1 := Lib.hid hb
    clear hb
    go_wp2_with fail
    refine (HPa.out w1 (HA.out.on B1.out)).mono ?_
    rintro e w2 ⟨rfl, hb⟩
    have B2 := Lib.hid (bstep B1.out hb)
    clear hb
    go_wp2_with fail
    refine (HC.out _).mono ?_
    rintro e wc ⟨rfl, rfl⟩
    go_wp2_with fail
    refine (HSm.out w2 (HA.out.on B2.out)).mono ?_
    rintro e w3 ⟨rfl, hb⟩
    have B3 := Lib.hid (bstep B2.out hb)
    clear hb
    go_wp2_with fail
    go_ret2
    exact ⟨rfl, B3.out⟩
  have z1 : (T == 0) = false := beq_false_of_ne hT0
  obtain ⟨e1, e2⟩ := nea_ok hF hG ht (by rw [hT]; exact hT0)
  rw [hT] at e2
  rw [e1, e2]
  obtain ⟨V, hV⟩ : ∃ V, neaB T tol m r = V := ⟨_, rfl⟩
  rw [hV]
  have HV := Lib.hid hV
  have HML := Lib.hid hml
  have HRL := Lib.hid hrl
  have HN := Lib.hid (And.intro hn hn')
  have HTl := Lib.hid htl
  have HTs := Lib.hid hsl
  have HT0 := Lib.hid hT0
  have htt : tol * T ≤ 8796093022208000 := by
    have h1 : tol * T ≤ 1000 * T := Int.mul_le_mul_of_nonneg_right htl.2 hsl.1
    omega
  have htt0 : 0 ≤ tol * T := Int.mul_nonneg htl.1 hsl.1
  obtain ⟨U, hU⟩ : ∃ U, tol * T = U := ⟨_, rfl⟩
  obtain ⟨ν, hν⟩ : ∃ ν, -tol = ν := ⟨_, rfl⟩
  have hnu : ν * T = -U := by rw [← hν, ← hU, Int.neg_mul]
  obtain ⟨NU, hNU⟩ : ∃ NU, ν * T = NU := ⟨_, rfl⟩
  rw [hU] at htt htt0
  have wU : IntKind.i64.wrap U = U := wrap_id (by omega)
  have wN : IntKind.i64.wrap ν = ν := wrap_id (by omega)
  have wNU : IntKind.i64.wrap NU = NU := wrap_id (by omega)
  have HU := Lib.hid (And.intro hU (And.intro (show NU = -U by rw [← hNU]; exact hnu) (And.intro htt0 htt)))
  clear ha hb hn hn' lr hF hF2 hG hG2 e1 e2 ht hr1 h8 hrl hml0 hml hT hM hV htl hnu htt htt0 hsl hT0 hte htv
  go_enter Try.func29, Try.ntmps29
  go_wp2_with fail
  refine HRe.out.mono ?_
  rintro e w1 ⟨rfl, hb⟩
  have B1 := Lib.hid hb
  clear hb
  go_wp2_with fail
  refine (HPa.out w1 (HA.out.on B1.out)).mono ?_
  rintro e w2 ⟨rfl, hb⟩
  have B2 := Lib.hid (bstep B1.out hb)
  clear hb
  go_wp2_with fail
  refine (HC.out _).mono ?_
  rintro e wc ⟨rfl, rfl⟩
  go_wp2_with fail
  refine (HSm.out w2 (HA.out.on B2.out)).mono ?_
  rintro e w3 ⟨rfl, hb⟩
  have B3 := Lib.hid (bstep B2.out hb)
  clear hb
  go_wp2_with fail
  go_loopw [44, 13, 14, 15] (fun i _ _ _ wr => ∃ k : Nat, k ≤ n ∧ i = .int .i64 k ∧ (∀ (j : Nat) (x y : Int), j < k → m[j]? = some x → r[j]? = some y → nea1 T tol x y = true) ∧ Below w.heap.size w wr) (fun i _ _ _ _ => n - (RowKit.intOf i).toNat)
  case atStart => exact ⟨0, Nat.zero_le _, rfl, fun j x y h => absurd h (by omega), B3.out⟩
  case round =>
    obtain ⟨k, hk, rfl, hv, hbel⟩ := hrel
    have HQ := Lib.hid hv
    have HW := Lib.hid hbel
    clear hv hbel
    rcases Nat.lt_or_ge k n with hlt | hge
    · obtain ⟨x, hx⟩ := get_lt (L := m) (k := k) (by have := HN.out.1; omega)
      obtain ⟨y, hy⟩ := get_lt (L := r) (k := k) (by have := HN.out.2; omega)
      obtain ⟨b1, o1, hA0, hb1, h0⟩ := cl_at (HA.out.on HW.out) hx
      obtain ⟨b2, o2, hB0, hb2, h3⟩ := cl_at (HB.out.on HW.out) hy
      subst hA0
      subst hB0
      have HX := Lib.hid hx
      have HY := Lib.hid hy
      have hxl := HML.out x (List.mem_of_getElem? hx)
      have hyl := HRL.out y (List.mem_of_getElem? hy)
      have hM : MM = 1099511627776 := rfl
      have hts := HTs.out
      have i1 : (k : Int) < (n : Int) := by omega
      have i2 : (0 : Int) ≤ (k : Int) := by omega
      have hyT : y * T ≤ 8796093022208000 := by
        have h1 : y * T ≤ 1000 * T := Int.mul_le_mul_of_nonneg_right hyl.2 hts.1
        omega
      have hyT0 : 0 ≤ y * T := Int.mul_nonneg hyl.1 hts.1
      obtain ⟨P1, hP1⟩ : ∃ P, 1000 * x = P := ⟨_, rfl⟩
      obtain ⟨P2, hP2⟩ : ∃ P, y * T = P := ⟨_, rfl⟩
      obtain ⟨D, hD⟩ : ∃ D, P1 - P2 = D := ⟨_, rfl⟩
      rw [hP2] at hyT hyT0
      have w1' : IntKind.i64.wrap P1 = P1 := wrap_id (by omega)
      have w2' : IntKind.i64.wrap P2 = P2 := wrap_id (by omega)
      have w3' : IntKind.i64.wrap D = D := wrap_id (by omega)
      have HD := Lib.hid (show 1000 * x - y * T = D by rw [hP1, hP2, hD])
      obtain ⟨ND, hND⟩ : ∃ ND, -D = ND := ⟨_, rfl⟩
      have w4' : IntKind.i64.wrap ND = ND := wrap_id (by omega)
      obtain ⟨M, hMx⟩ : ∃ M, (if D < ND then ND else D) = M := ⟨_, rfl⟩
      have hMx2 : max D ND = M := by rw [← hMx]; split <;> omega
      have hMx3 : (if D ≤ ND then ND else D) = M := by rw [← hMx]; split <;> split <;> omega
      have hM1 : D ≤ M ∧ -D ≤ M ∧ (M = D ∨ M = -D) := by rw [← hMx]; split <;> omega
      have HU1 := HU.out.2.1
      clear hx hy hxl hyl hM hts hyT hyT0
      rcases Int.lt_or_le U M with hg | hg
      · have t5 : decide (U < M) = true := decide_eq_true hg
        have hor : U < D ∨ D < NU := by omega
        obtain rfl : V = false := by rw [← HV.out]; exact neaB_bad HX.out HY.out (nea1_no (by rw [HU.out.1, HD.out]; rw [HU.out.2.1] at hor; exact hor))
        clear hg hor hM1 HU1
        go_wp2_with fail
        go_ret2
        exact ⟨rfl, HW.out⟩
      have t5 : decide (U < M) = false := decide_eq_false (by omega)
      have HY1 := Lib.hid (nea1_yes (t := T) (tol := tol) (x := x) (r := y) (by rw [HU.out.1, HD.out]; omega) (by rw [HU.out.1, HD.out]; omega))
      clear hg hM1 HU1
      go_wp2_with fail
      go_roundw
      case rel =>
        refine ⟨k + 1, by omega, by go_num, ?_, HW.out⟩
        intro j u v hj hu hv
        rcases Nat.lt_or_eq_of_le (Nat.le_of_lt_succ hj) with h | h
        · exact HQ.out j u v h hu hv
        · subst h
          have e1 := HX.out
          have e2 := HY.out
          rw [hu] at e1; rw [hv] at e2; cases e1; cases e2; exact HY1.out
      case measure => simp [RowKit.intOf]; omega
    · obtain rfl : k = n := by omega
      obtain rfl : V = true := by rw [← HV.out]; exact neaB_ok fun j x y hx hy => HQ.out j x y (by have := glt hx; have := HN.out.1; omega) hx hy
      go_wp2_with fail
      go_ret2
      exact ⟨rfl, HW.out⟩
end Go.Proofs.Ytgomokdklajlcaa.Fibre
/- The program's contracts, together. -/
/- The chapter's examples. -/
namespace Go.Proofs.Ytgomokdklajlcaa.Fibre
open Go.ChangeShapes Go.WideShapes Go.RowKit Go.Lib
open Go.Proofs.Ytgomokdklajlcaa.Mem (Cl eI Own)
open Go.Proofs.Ytgomokdklajlcaa.Rw (Rd Row bstep below_alloc cI cI_len rd_lit flat_cI)
set_option linter.unusedVariables false
set_option maxRecDepth 100000

theorem cl_rd {w : World} {A : Option Addr} {L : List Int} (h : Rd cI 1 w A L) : Cl eI w A L := by
  intro k z hz
  obtain ⟨b, off, e, hlt, hc⟩ := h k z hz
  have := hc 0 _ rfl
  rw [Nat.mul_one, Nat.add_zero] at this
  exact ⟨b, off, e, hlt, this⟩
theorem lit_ints (w : World) (L : List Int) (T : TypeId) {k : Nat} (hk : w.heap.size = k) : Cl eI (w.alloc (.cells (L.flatMap cI).toArray T)) (some ⟨k, 0, none⟩) L := by
  subst hk
  exact cl_rd (rd_lit cI_len (heap_alloc_new _ _))
theorem lit_kinds (w : World) (L : List Fb) (T : TypeId) {k : Nat} (hk : w.heap.size = k) : Kds (w.alloc (.cells (L.flatMap cF).toArray T)) (some ⟨k, 0, none⟩) L := by
  subst hk
  exact rd_lit cF_len (heap_alloc_new _ _)
abbrev fa : Fb := (⟨#[97]⟩, 1000)
theorem sz_fa : Sz [fa] := fun f hf => by
  rw [List.mem_singleton] at hf
  subst hf; decide
set_option maxHeartbeats 6400000 in
theorem law_awake (w : World) :
    Calls Try.prog 12 #[] w fun e w' => e = .returned (.bool true) ∧ Below w.heap.size w w' := by
  have K1 := Lib.hid fun (A : Option Addr) (W : World) (h : Cl eI W A [333, 333, 334]) => fibre_Masses [333, 333, 334] A 3 3 rfl 10 W h (by decide)
  have K2 := Lib.hid fun (A B : Option Addr) (W : World) (h : Kds W A [fa]) (k : Cl eI W B [500]) => fibre_Cost [fa] [500] A B 1 1 1 1 rfl rfl W h sz_fa k (by decide) (by decide)
  have K3 := Lib.hid fun (A B : Option Addr) (W : World) (h : Kds W A [fa]) (k : Cl eI W B [1500]) => fibre_Cost [fa] [1500] A B 1 1 1 1 rfl rfl W h sz_fa k (by decide) (by decide)
  have K4 := Lib.hid fun (A B : Option Addr) (W : World) (h : Cl eI W A [30, 70]) (k : Cl eI W B [280, 720]) => fibre_Near [30, 70] [280, 720] A B 2 2 2 2 rfl rfl 20 W h k (by decide) (by decide)
  have K5 := Lib.hid fun (A B : Option Addr) (W : World) (h : Cl eI W A [30, 70]) (k : Cl eI W B [280, 720]) => fibre_Near [30, 70] [280, 720] A B 2 2 2 2 rfl rfl 19 W h k (by decide) (by decide)
  have K6 := Lib.hid fun (A B : Option Addr) (W : World) (h : Cl eI W A [1, 2]) (k : Cl eI W B [3, 4]) => fibre_Add [1, 2] [3, 4] A B 2 2 2 2 rfl rfl W h k (by decide) (by decide)
  have K7 := Lib.hid fun (W : World) => fibre_Check [] none 0 0 rfl W (Rd.nil _ _ _ _) (fun f hf => by simp at hf) (by decide)
  have K8 := Lib.hid fun (A : Option Addr) (W : World) (h : Cl eI W A [500, 499]) => fibre_Recipe [500, 499] A 2 2 rfl 2 W h (by decide)
  have K9 := Lib.hid fun (A : Option Addr) (W : World) (h : Cl eI W A [500, 499]) => fibre_Recipe [500, 499] A 2 2 rfl 3 W h (by decide)
  rw [show masL [333, 333, 334] 10 = [3, 3, 4] by decide +kernel, show masE [333, 333, 334] 10 = 0 by decide +kernel] at K1
  rw [show cosV mdC [fa] [500] = 0 by decide +kernel, show cosE mdC [fa] [500] = 0 by decide +kernel] at K2
  rw [show cosV mdC [fa] [1500] = 2 by decide +kernel, show cosE mdC [fa] [1500] = 0 by decide +kernel] at K3
  rw [show neaV [30, 70] [280, 720] 20 = true by decide +kernel, show neaE [30, 70] [280, 720] 20 = 0 by decide +kernel] at K4
  rw [show neaV [30, 70] [280, 720] 19 = false by decide +kernel, show neaE [30, 70] [280, 720] 19 = 0 by decide +kernel] at K5
  rw [show addL [1, 2] [3, 4] = [4, 6] by decide +kernel, show addE [1, 2] [3, 4] = 0 by decide +kernel] at K6
  rw [show chkE [] = 10 by decide +kernel] at K7
  rw [show recE [500, 499] 2 = 18 by decide +kernel] at K8
  rw [show recE [500, 499] 3 = 17 by decide +kernel] at K9
  go_enter Try.func12, Try.ntmps12
  go_wp2_with fail
  refine (K1.out (some ⟨w.heap.size, 0, none⟩) _ (lit_ints w ([(333 : Int), (333 : Int), (334 : Int)] : List Int) 3 (by simp))).mono ?_
  rintro e w1 ⟨v, rfl, ho, hb⟩
  have hb' := bstep (below_alloc w (.cells (([(333 : Int), (333 : Int), (334 : Int)] : List Int).flatMap cI).toArray 3)) hb
  have B1 := Lib.hid hb'
  obtain ⟨A1, c1, rfl, -, hc1⟩ := ho.inS.open_
  have R1 := Lib.hid hc1
  clear ho hc1
  clear hb hb'
  go_wp2_with fail
  refine (K2.out (some ⟨w1.heap.size, 0, none⟩) (some ⟨w1.heap.size + 1, 0, none⟩) _ ((lit_kinds w1 [fa] 43 (by simp)).on (below_alloc _ _)) (lit_ints (w1.alloc (.cells ([fa].flatMap cF).toArray 43)) ([(500 : Int)] : List Int) 3 (by simp))).mono ?_
  rintro e w2 ⟨rfl, hb⟩
  have hb' := bstep (bstep (below_alloc w1 (.cells ([fa].flatMap cF).toArray 43)) (below_alloc (w1.alloc (.cells ([fa].flatMap cF).toArray 43)) (.cells (([(500 : Int)] : List Int).flatMap cI).toArray 3))) hb
  have B2 := Lib.hid (bstep B1.out hb')
  replace R1 := Lib.hid (R1.out.on hb')
  clear hb hb'
  go_wp2_with fail
  refine (K3.out (some ⟨w2.heap.size, 0, none⟩) (some ⟨w2.heap.size + 1, 0, none⟩) _ ((lit_kinds w2 [fa] 43 (by simp)).on (below_alloc _ _)) (lit_ints (w2.alloc (.cells ([fa].flatMap cF).toArray 43)) ([(1500 : Int)] : List Int) 3 (by simp))).mono ?_
  rintro e w3 ⟨rfl, hb⟩
  have hb' := bstep (bstep (below_alloc w2 (.cells ([fa].flatMap cF).toArray 43)) (below_alloc (w2.alloc (.cells ([fa].flatMap cF).toArray 43)) (.cells (([(1500 : Int)] : List Int).flatMap cI).toArray 3))) hb
  have B3 := Lib.hid (bstep B2.out hb')
  replace R1 := Lib.hid (R1.out.on hb')
  clear hb hb'
  go_wp2_with fail
  refine (K4.out (some ⟨w3.heap.size, 0, none⟩) (some ⟨w3.heap.size + 1, 0, none⟩) _ ((lit_ints w3 ([(30 : Int), (70 : Int)] : List Int) 3 (by simp)).on (below_alloc _ _)) (lit_ints (w3.alloc (.cells (([(30 : Int), (70 : Int)] : List Int).flatMap cI).toArray 3)) ([(280 : Int), (720 : Int)] : List Int) 3 (by simp))).mono ?_
  rintro e w4 ⟨rfl, hb⟩
  have hb' := bstep (bstep (below_alloc w3 (.cells (([(30 : Int), (70 : Int)] : List Int).flatMap cI).toArray 3)) (below_alloc (w3.alloc (.cells (([(30 : Int), (70 : Int)] : List Int).flatMap cI).toArray 3)) (.cells (([(280 : Int), (720 : Int)] : List Int).flatMap cI).toArray 3))) hb
  have B4 := Lib.hid (bstep B3.out hb')
  replace R1 := Lib.hid (R1.out.on hb')
  clear hb hb'
  go_wp2_with fail
  refine (K5.out (some ⟨w4.heap.size, 0, none⟩) (some ⟨w4.heap.size + 1, 0, none⟩) _ ((lit_ints w4 ([(30 : Int), (70 : Int)] : List Int) 3 (by simp)).on (below_alloc _ _)) (lit_ints (w4.alloc (.cells (([(30 : Int), (70 : Int)] : List Int).flatMap cI).toArray 3)) ([(280 : Int), (720 : Int)] : List Int) 3 (by simp))).mono ?_
  rintro e w5 ⟨rfl, hb⟩
  have hb' := bstep (bstep (below_alloc w4 (.cells (([(30 : Int), (70 : Int)] : List Int).flatMap cI).toArray 3)) (below_alloc (w4.alloc (.cells (([(30 : Int), (70 : Int)] : List Int).flatMap cI).toArray 3)) (.cells (([(280 : Int), (720 : Int)] : List Int).flatMap cI).toArray 3))) hb
  have B5 := Lib.hid (bstep B4.out hb')
  replace R1 := Lib.hid (R1.out.on hb')
  clear hb hb'
  go_wp2_with fail
  refine (K6.out (some ⟨w5.heap.size, 0, none⟩) (some ⟨w5.heap.size + 1, 0, none⟩) _ ((lit_ints w5 ([(1 : Int), (2 : Int)] : List Int) 3 (by simp)).on (below_alloc _ _)) (lit_ints (w5.alloc (.cells (([(1 : Int), (2 : Int)] : List Int).flatMap cI).toArray 3)) ([(3 : Int), (4 : Int)] : List Int) 3 (by simp))).mono ?_
  rintro e w6 ⟨v, rfl, ho, hb⟩
  have hb' := bstep (bstep (below_alloc w5 (.cells (([(1 : Int), (2 : Int)] : List Int).flatMap cI).toArray 3)) (below_alloc (w5.alloc (.cells (([(1 : Int), (2 : Int)] : List Int).flatMap cI).toArray 3)) (.cells (([(3 : Int), (4 : Int)] : List Int).flatMap cI).toArray 3))) hb
  have B6 := Lib.hid (bstep B5.out hb')
  replace R1 := Lib.hid (R1.out.on hb')
  obtain ⟨A2, c2, rfl, -, hc2⟩ := ho.inS.open_
  have R2 := Lib.hid hc2
  clear ho hc2
  clear hb hb'
  go_wp2_with fail
  refine (rr_Same ([(3 : Int), (3 : Int), (4 : Int)] : List Int) ([(3 : Int), (3 : Int), (4 : Int)] : List Int) A1 _ c1 _ 3 3 rfl rfl _ (R1.out.on (below_alloc _ _)) (lit_ints w6 ([(3 : Int), (3 : Int), (4 : Int)] : List Int) 3 rfl) (by decide) (by decide)).mono ?_
  rintro e w7 ⟨rfl, hb⟩
  have hb' := bstep (below_alloc w6 (.cells (([(3 : Int), (3 : Int), (4 : Int)] : List Int).flatMap cI).toArray 3)) hb
  have B7 := Lib.hid (bstep B6.out hb')
  replace R1 := Lib.hid (R1.out.on hb')
  replace R2 := Lib.hid (R2.out.on hb')
  clear hb hb'
  rw [decide_eq_true (rfl : ([(3 : Int), (3 : Int), (4 : Int)] : List Int) = ([(3 : Int), (3 : Int), (4 : Int)] : List Int))]
  go_wp2_with fail
  refine (rr_Same ([(4 : Int), (6 : Int)] : List Int) ([(4 : Int), (6 : Int)] : List Int) A2 _ c2 _ 2 2 rfl rfl _ (R2.out.on (below_alloc _ _)) (lit_ints w7 ([(4 : Int), (6 : Int)] : List Int) 3 rfl) (by decide) (by decide)).mono ?_
  rintro e w8 ⟨rfl, hb⟩
  have hb' := bstep (below_alloc w7 (.cells (([(4 : Int), (6 : Int)] : List Int).flatMap cI).toArray 3)) hb
  have B8 := Lib.hid (bstep B7.out hb')
  replace R1 := Lib.hid (R1.out.on hb')
  replace R2 := Lib.hid (R2.out.on hb')
  clear hb hb'
  rw [decide_eq_true (rfl : ([(4 : Int), (6 : Int)] : List Int) = ([(4 : Int), (6 : Int)] : List Int))]
  go_wp2_with fail
  refine (K7.out w8).mono ?_
  rintro e w9 ⟨rfl, hb⟩
  have B9 := Lib.hid (bstep B8.out hb)
  replace R1 := Lib.hid (R1.out.on hb)
  replace R2 := Lib.hid (R2.out.on hb)
  clear hb
  go_wp2_with fail
  refine (K8.out (some ⟨w9.heap.size, 0, none⟩) _ (lit_ints w9 ([(500 : Int), (499 : Int)] : List Int) 3 (by simp))).mono ?_
  rintro e w10 ⟨rfl, hb⟩
  have hb' := bstep (below_alloc w9 (.cells (([(500 : Int), (499 : Int)] : List Int).flatMap cI).toArray 3)) hb
  have B10 := Lib.hid (bstep B9.out hb')
  replace R1 := Lib.hid (R1.out.on hb')
  replace R2 := Lib.hid (R2.out.on hb')
  clear hb hb'
  go_wp2_with fail
  refine (K9.out (some ⟨w10.heap.size, 0, none⟩) _ (lit_ints w10 ([(500 : Int), (499 : Int)] : List Int) 3 (by simp))).mono ?_
  rintro e w11 ⟨rfl, hb⟩
  have hb' := bstep (below_alloc w10 (.cells (([(500 : Int), (499 : Int)] : List Int).flatMap cI).toArray 3)) hb
  have B11 := Lib.hid (bstep B10.out hb')
  replace R1 := Lib.hid (R1.out.on hb')
  replace R2 := Lib.hid (R2.out.on hb')
  clear hb hb'
  go_wp2_with fail
  go_ret
  exact ⟨rfl, B11.out⟩
end Go.Proofs.Ytgomokdklajlcaa.Fibre
