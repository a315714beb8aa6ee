/- The stage's theorem on two tanks: TankPoured (gen17/s.py). -/
import Derived.Test.YtgmlccjjhmhgbaaGreatPk30
import Derived.Test.YtgmlccjjhmhgbaaGreatCTankO
import Derived.Test.YtgmlccjjhmhgbaaGreatPk1
import Derived.Test.YtgmlccjjhmhgbaaGreatCTankV
namespace Go.Proofs.YtgmlccjjhmhgbaaGreat.Tank
open Go.ChangeShapes Go.WideShapes Go.RowKit Go.Lib
open Go.Proofs.YtgmlccjjhmhgbaaGreat.Rw (glt get_lt below_alloc bstep wrap_id below_drewN below_drew drew_below)
set_option linter.unusedVariables false
set_option maxRecDepth 100000

theorem same_numS {t : Trip} {va vb : Value} {w : World} (ha : InR w va t.1 t.2.1 t.2.2) (hb : InR w vb t.1 t.2.1 t.2.2) :
    Calls Tryz.prog 19 #[va, vb] w fun e w' => e = .returned (.bool true) ∧ Below w.heap.size w w' := by
  have h := tk_Same t t va vb w ha hb
  rw [decide_eq_true (rfl : t = t)] at h
  exact h
theorem valid_tsS {Q : List Rat} (h : ∀ q ∈ Q, fitR q = true) : (ts Q).all vT = true := List.all_eq_true.mpr fun t ht => ts_valid h t ht
theorem dr_nonneg {cap : Int} {L : List Trip} {mass : Int} (h : drE cap L mass = 0) : ∀ q ∈ drY L mass, 0 ≤ q := fun q hq => by
  have hd := drE_of h
  unfold drY at hq
  obtain ⟨p, hp, rfl⟩ := List.mem_map.mp hq
  have hp0 := (hd.t.level.2.2 p hp).2
  by_cases hm : mass = 0
  · rw [if_pos hm]; exact hp0
  · rw [if_neg hm]
    have h0 : (0 : Rat) ≤ qI mass := by rw [← qI_zero0]; exact qI_le hd.m0
    have hv0 : 0 < sumV L := Rat.not_le.mp fun k => dr_level h hm (Rat.le_antisymm k hd.t.pos.1)
    exact (tk_nonneg hp0 h0 hv0 hd.mass_le).2
/-- What Check says of what is left. -/
theorem dr_check {cap : Int} {L : List Trip} {mass : Int} (h : drE cap L mass = 0) : ckT cap (ts (drY L mass)) = 0 ∨ ckT cap (ts (drY L mass)) = 2 := by
  have hd := drE_of h
  have hf := (dr_fit h).2
  have hlen : (ts (drY L mass)).length = L.length := by rw [ts_len, drY_len]
  have hP : ckP (ts (drY L mass)) = 0 := ckP_ok fun j u hu => by
    obtain ⟨q, hq, rfl⟩ := List.mem_map.mp (List.mem_of_getElem? hu)
    exact ⟨vT_tri (hf q hq), neg_iff.mpr (dr_nonneg h q hq)⟩
  have hc := hd.t.c0
  have hc1 := hd.t.c1
  have hn := hd.t.n0
  have hn1 := hd.t.n1
  unfold ckT
  rw [if_pos ⟨hc, hc1⟩]
  unfold ckN
  rw [hlen, if_pos ⟨hn, hn1⟩, if_pos hP]
  unfold ckS
  rcases sumE_few (Q := drY L mass) (by rw [drY_len]; omega) hf with he | he
  · rw [if_pos he]
    by_cases hx : crossOk (sumV (ts (drY L mass))) (qI cap) = true
    · rw [if_pos hx]
      have hle : ¬ 0 < cmpG (sumV (ts (drY L mass))) (qI cap) := fun k => by
        have k2 := (cmpG_pos hx).mp k
        rw [sumV_ts hf he, dr_rest h] at k2
        have h0 : (0 : Rat) ≤ qI mass := by rw [← qI_zero0]; exact qI_le hd.m0
        have h1 := hd.t.level.2.1
        have h2 : sumV L + -qI mass ≤ qI cap := by grind
        exact Rat.not_lt.mpr h2 k2
      rw [if_neg hle]; exact Or.inl rfl
    · rw [if_neg hx]; exact Or.inr rfl
  · rw [if_neg (by rw [he]; decide), he]; exact Or.inr rfl
theorem po_of {c : Int} {L : List Trip} {d : Int} {M : List Trip} {mass : Int} (h : poE c L d M mass = 0) : ckT c L = 0 ∧ ckT d M = 0 ∧ L.length = M.length ∧ drE c L mass = 0 ∧ poB (qs M) (drX L mass) = true ∧ ckT d (ts (poV (qs M) (drX L mass))) = 0 := by
  unfold poE at h
  by_cases h1 : ckT c L = 0
  · rw [if_pos h1] at h
    by_cases h2 : ckT d M = 0
    · rw [if_pos h2] at h
      by_cases h3 : L.length = M.length
      · rw [if_pos h3] at h
        by_cases h4 : drE c L mass = 0
        · rw [if_pos h4] at h
          by_cases h5 : poB (qs M) (drX L mass) = true
          · rw [if_pos h5] at h; exact ⟨h1, h2, h3, h4, h5, h⟩
          · rw [if_neg h5] at h; cases h
        · rw [if_neg h4] at h; exact absurd h h4
      · rw [if_neg h3] at h; cases h
    · rw [if_neg h2] at h; exact absurd h h2
  · rw [if_neg h1] at h; exact absurd h h1
set_option maxHeartbeats 6400000 in
theorem walk_TankPoured (w : World) (cap : Int) (A : Option Addr) (c : Nat) (L : List Trip) (ha : Rats w A L) (hm : L.length ≤ 9223372036854775807) (cap2 : Int) (B : Option Addr) (d : Nat) (M : List Trip) (hb : Rats w B M) (hm2 : M.length ≤ 9223372036854775807) (mass : Int) :
    Calls Tryz.prog 9 #[.agg #[.int .i64 cap, .slice A L.length c], .agg #[.int .i64 cap2, .slice B M.length d], .int .i64 mass] w fun e w' => e = .returned (.bool true) ∧ Below w.heap.size w w' := by
  have HA := Lib.hid ha
  have KQ := Lib.hid fun W => law_awake W
  obtain ⟨n, hn⟩ : ∃ n, n = L.length := ⟨_, rfl⟩
  rw [← hn] at hm ⊢
  have KL := Lib.hid fun (W : World) (h : Rats W A L) => law_light cap L A n c hn W h hm
  obtain ⟨li, hli⟩ : ∃ b, lightB L = b := ⟨_, rfl⟩
  rw [hli] at KL
  have HM := Lib.hid hb
  obtain ⟨m, hn2⟩ : ∃ n, n = M.length := ⟨_, rfl⟩
  rw [← hn2] at hm2 ⊢
  have KL2 := Lib.hid fun (W : World) (h : Rats W B M) => law_light cap2 M B m d hn2 W h hm2
  obtain ⟨lj, hlj⟩ : ∃ b, lightB M = b := ⟨_, rfl⟩
  rw [hlj] at KL2
  have KF := Lib.hid fun (W : World) (h : Rats W A L) (k : Rats W B M) => p_Pour cap L A n c hn cap2 M B m d hn2 mass W h k hm hm2
  have HN := Lib.hid (And.intro hn hn2)
  obtain ⟨G, hG⟩ : ∃ x, poE cap L cap2 M mass = x := ⟨_, rfl⟩
  have hno := fun h => po_no hG h
  have hyes := fun h : G = 0 => po_yes (hG.trans h)
  obtain ⟨GA, hGA⟩ : ∃ x, poC cap L cap2 M mass cap = x := ⟨_, rfl⟩
  obtain ⟨GB, hGB⟩ : ∃ x, poC cap L cap2 M mass cap2 = x := ⟨_, rfl⟩
  obtain ⟨GX, hGX⟩ : ∃ x, poX cap L cap2 M mass = x := ⟨_, rfl⟩
  obtain ⟨GY, hGY⟩ : ∃ x, poY cap L cap2 M mass = x := ⟨_, rfl⟩
  have NO : Hid (¬ G = 0 → GX = [] ∧ GY = []) := fun h => ⟨hGX ▸ (hno h).2.1, hGY ▸ (hno h).2.2⟩
  have YES : Hid (G = 0 → GA = cap ∧ GB = cap2 ∧ GX = ts (drY L mass) ∧ GY = ts (poV (qs M) (drX L mass))) := fun h => ⟨hGA ▸ (hyes h).1 cap, hGB ▸ (hyes h).1 cap2, hGX ▸ (hyes h).2.1, hGY ▸ (hyes h).2.2⟩
  rw [hG, hGA, hGB, hGX, hGY] at KF
  have HG := Lib.hid hG
  clear hG hGA hGB hGX hGY hb hn2 hlj hm2 hno hyes
  clear ha hn hli hm
  go_enter Tryz.func9, Tryz.ntmps9
  go_upto_region 1 with fail
  obtain ⟨w0, hw0⟩ : ∃ W, ((w.alloc (.cells #[.int .i64 cap, .slice A n c] 24)).alloc (.cells #[.int .i64 cap2, .slice B m d] 24)) = W := ⟨_, rfl⟩
  have C0 : Hid (Rw.Cel w0 (w.heap.size) [.int .i64 cap, .slice A n c]) := hw0 ▸ (Rw.Cel.new_at _ [_, _] _ (by simp)).alloc _
  have C1 : Hid (Rw.Cel w0 (w.heap.size + 1) [.int .i64 cap2, .slice B m d]) := hw0 ▸ (Rw.Cel.new_at _ [_, _] _ (by simp))
  have HB : Hid (Below w.heap.size w w0) := hw0 ▸ bstep (below_alloc _ _) (below_alloc _ _)
  first | rw [hw0] | skip
  clear hw0
  obtain ⟨x0, x1⟩ := C0.out.two
  go_wp2_with fail
  refine (KL.out w0 (Rats.on HA.out HB.out)).mono ?_
  rintro e w1 ⟨rfl, hb⟩
  replace HB := Lib.hid (bstep HB.out hb)
  replace C0 := Lib.hid (C0.out.on hb)
  replace C1 := Lib.hid (C1.out.on hb)
  clear hb x0 x1
  cases li with
  | false =>
    go_wp2_with fail
    refine (KQ.out _).mono ?_
    rintro e wq ⟨rfl, hb⟩
    have HF := Lib.hid (bstep HB.out hb)
    clear hb
    go_wp2_with fail
    go_ret
    exact ⟨rfl, HF.out⟩
  | true =>
  obtain ⟨x0, x1⟩ := C1.out.two
  go_wp2_with fail
  refine (KL2.out w1 (Rats.on HM.out HB.out)).mono ?_
  rintro e w2 ⟨rfl, hb⟩
  replace HB := Lib.hid (bstep HB.out hb)
  replace C0 := Lib.hid (C0.out.on hb)
  replace C1 := Lib.hid (C1.out.on hb)
  clear hb x0 x1
  cases lj with
  | false =>
    go_wp2_with fail
    refine (KQ.out _).mono ?_
    rintro e wq ⟨rfl, hb⟩
    have HF := Lib.hid (bstep HB.out hb)
    clear hb
    go_wp2_with fail
    go_ret
    exact ⟨rfl, HF.out⟩
  | true =>
  obtain ⟨x0, x1⟩ := C0.out.two
  obtain ⟨y0, y1⟩ := C1.out.two
  go_wp2_with fail
  refine (KF.out w2 (Rats.on HA.out HB.out) (Rats.on HM.out HB.out)).mono ?_
  rintro e w3 ⟨v, u, rfl, hT, hU, hb⟩
  obtain ⟨A1, c1, rfl, hl1, hr1⟩ := hT
  obtain ⟨B1, d1, rfl, hl2, hr2⟩ := hU
  obtain ⟨n1, hn1⟩ : ∃ n1, n1 = GX.length := ⟨_, rfl⟩
  obtain ⟨m1, hn2⟩ : ∃ n1, n1 = GY.length := ⟨_, rfl⟩
  rw [← hn1, ← hn2]
  have X1 := Lib.hid hr1
  have Y1 := Lib.hid hr2
  have N1 := Lib.hid (And.intro (And.intro hn1 hl1) (And.intro hn2 hl2))
  replace HB := Lib.hid (bstep HB.out hb)
  replace C0 := Lib.hid (C0.out.on hb)
  replace C1 := Lib.hid (C1.out.on hb)
  clear hb hn1 hl1 hr1 hn2 hl2 hr2 x0 x1 y0 y1
  go_upto_region 4 with fail
  obtain ⟨w4, hw⟩ : ∃ W, (w3.alloc (.cells #[.int .i64 GA, .slice A1 n1 c1] 24)).alloc (.cells #[.int .i64 GB, .slice B1 m1 d1] 24) = W := ⟨_, rfl⟩
  obtain ⟨gX, hg⟩ : ∃ g, w3.heap.size = g := ⟨_, rfl⟩
  have hb : Below w3.heap.size w3 w4 := hw ▸ bstep (below_alloc _ _) (below_alloc _ _)
  have CX : Hid (Rw.Cel w4 gX [.int .i64 GA, .slice A1 n1 c1]) := hw ▸ hg ▸ (Rw.Cel.new w3 [_, _] _).alloc _
  have CY : Hid (Rw.Cel w4 (gX + 1) [.int .i64 GB, .slice B1 m1 d1]) := hw ▸ hg ▸ Rw.Cel.new_at _ [_, _] _ (by simp)
  replace HB := Lib.hid (bstep HB.out hb)
  replace C0 := Lib.hid (C0.out.on hb)
  replace C1 := Lib.hid (C1.out.on hb)
  replace X1 := Lib.hid (Rats.on X1.out hb)
  replace Y1 := Lib.hid (Rats.on Y1.out hb)
  rw [hg, hw]
  clear hw hg hb
  by_cases hz : G = 0
  rotate_left
  · obtain ⟨z1, z2⟩ := ne_zero hz
    obtain ⟨h2, h3⟩ := NO.out hz
    have e1 : n1 = 0 := by rw [N1.out.1.1, h2]; rfl
    have e2 : m1 = 0 := by rw [N1.out.2.1, h3]; rfl
    subst e1; subst e2
    obtain ⟨x0, x1⟩ := CX.out.two
    obtain ⟨y0, y1⟩ := CY.out.two
    clear hz h2 h3
    go_wp2_with fail
    refine (KQ.out _).mono ?_
    rintro e wq ⟨rfl, hb⟩
    have HF := Lib.hid (bstep HB.out hb)
    clear hb
    go_wp2_with fail
    go_ret
    exact ⟨rfl, HF.out⟩
  subst hz
  obtain ⟨h1, h2, h3, h4⟩ := YES.out rfl
  subst h1; subst h2; subst h3; subst h4
  obtain ⟨k1, k2, k3, k4, k5, k6⟩ := po_of HG.out
  have HDE := Lib.hid k4
  have HC2 := Lib.hid k6
  have HTA := Lib.hid (ckT_of k1)
  have HTB := Lib.hid (ckT_of k2)
  have HFit := Lib.hid (dr_fit k4)
  have HFitY := Lib.hid (poV_fit (qs_fit fun t ht => (HTB.out.all t ht).1) (dr_fit k4).1 k5)
  have hn8 : n ≤ 8 := by have := HTA.out.n1; have := HN.out.1; omega
  have HN8 := Lib.hid hn8
  have e1 : n1 = n := by rw [N1.out.1.1, ts_len, drY_len, HN.out.1]
  have e2 : m1 = n := by rw [N1.out.2.1, ts_len, poV_len (by rw [qs_len, drX_len]; exact k3.symm), qs_len, HN.out.1, k3]
  have e3 : m = n := by rw [HN.out.1, HN.out.2, k3]
  subst e1; subst e2; subst e3
  clear hn8 k1 k2 k3 k4 k5 k6
  have z1 : ((m : Int) != (m : Int)) = false := by simp
  have z2 : ((m : Int) == (m : Int)) = true := by simp
  obtain ⟨x0, x1⟩ := C0.out.two
  obtain ⟨y0, y1⟩ := C1.out.two
  obtain ⟨p0, p1⟩ := CX.out.two
  obtain ⟨q0, q1⟩ := CY.out.two
  have hv1 := law_valid (ts (drY L mass)) A1 m c1 N1.out.1.1 w4 X1.out (by have := HN8.out; omega)
  rw [valid_tsS HFit.out.2] at hv1
  go_wp2_with fail
  refine hv1.mono ?_
  rintro e w5 ⟨rfl, hb⟩
  replace HB := Lib.hid (bstep HB.out hb)
  replace C0 := Lib.hid (C0.out.on hb)
  replace C1 := Lib.hid (C1.out.on hb)
  replace X1 := Lib.hid (Rats.on X1.out hb)
  replace Y1 := Lib.hid (Rats.on Y1.out hb)
  replace CX := Lib.hid (CX.out.on hb)
  replace CY := Lib.hid (CY.out.on hb)
  clear hb hv1 x0 x1 y0 y1 p0 p1 q0 q1
  obtain ⟨q0, q1⟩ := CY.out.two
  have hv2 := law_valid (ts (poV (qs M) (drX L mass))) B1 m d1 N1.out.2.1 w5 Y1.out (by have := HN8.out; omega)
  rw [valid_tsS HFitY.out] at hv2
  go_wp2_with fail
  refine hv2.mono ?_
  rintro e w6 ⟨rfl, hb⟩
  replace HB := Lib.hid (bstep HB.out hb)
  replace C0 := Lib.hid (C0.out.on hb)
  replace C1 := Lib.hid (C1.out.on hb)
  replace X1 := Lib.hid (Rats.on X1.out hb)
  replace Y1 := Lib.hid (Rats.on Y1.out hb)
  replace CX := Lib.hid (CX.out.on hb)
  replace CY := Lib.hid (CY.out.on hb)
  clear hb hv2 q0 q1 z1 z2
  go_upto_region 9 with fail
  go_loopw [10] (fun i wr => ∃ k : Nat, k ≤ m ∧ i = .int .i64 k ∧ Below w6.heap.size w6 wr) (fun i _ => m - (RowKit.intOf i).toNat)
  case atStart => exact ⟨0, Nat.zero_le _, rfl, Below.refl _ _⟩
  case round =>
    obtain ⟨k, hk, rfl, hbel⟩ := hrel
    have BL := Lib.hid hbel
    have hb := hbel
    replace HB := Lib.hid (bstep HB.out hb)
    replace C0 := Lib.hid (C0.out.on hb)
    replace C1 := Lib.hid (C1.out.on hb)
    replace X1 := Lib.hid (Rats.on X1.out hb)
    replace Y1 := Lib.hid (Rats.on Y1.out hb)
    replace CX := Lib.hid (CX.out.on hb)
    replace CY := Lib.hid (CY.out.on hb)
    clear hb hbel
    rcases Nat.lt_or_ge k m with hlt | hge
    · obtain ⟨t, ht⟩ := get_lt (L := L) (k := k) (by have := HN.out.1; omega)
      obtain ⟨s, hs⟩ := get_lt (L := M) (k := k) (by have := HN.out.2; omega)
      obtain ⟨X, Y, hX, hY, hsum, -⟩ := dr_part HDE.out (qs_at ht)
      have hZ := poV_at (qs_at hs) hX
      have VT := Lib.hid (HTA.out.all t (List.mem_of_getElem? ht)).1
      have VS := Lib.hid (HTB.out.all s (List.mem_of_getElem? hs)).1
      have FP := Lib.hid (trip_form VT.out).1
      have FS := Lib.hid (trip_form VS.out).1
      have FY := Lib.hid (HFit.out.2 Y (List.mem_of_getElem? hY))
      have FZ := Lib.hid (HFitY.out _ (List.mem_of_getElem? hZ))
      obtain ⟨Z, hZZ⟩ : ∃ Z, rT s + X = Z := ⟨_, rfl⟩
      have hadd : Y + Z = rT t + rT s := by rw [← hZZ]; grind
      rw [hZZ] at hZ FZ
      obtain ⟨b2, o2, A6, c6, A8, c8, hA0, hb2, y0, y1, y2, hin⟩ := Rats.at_ (Rats.on HA.out HB.out) ht
      obtain ⟨b3, o3, A7, c7, A9, c9, hA1, hb3, p0, p1, p2, his⟩ := Rats.at_ (Rats.on HM.out HB.out) hs
      obtain ⟨b4, o4, A5, c5, A4, c4, hA2, hb4, q0, q1, q2, hiy⟩ := Rats.at_ X1.out (ts_at hY)
      obtain ⟨b5, o5, A3, c3, A2, c2, hA3, hb5, r0, r1, r2, hiz⟩ := Rats.at_ Y1.out (ts_at hZ)
      subst hA0
      subst hA1
      subst hA2
      subst hA3
      have i1 : (k : Int) < (m : Int) := by omega
      have i2 : (0 : Int) ≤ (k : Int) := by omega
      have i3 : IntKind.i64.wrap ((k : Int) + 1) = (k : Int) + 1 := Rw.wrap_id (by have := HN8.out; omega)
      have PT := Lib.hid (trip_is VT.out hin)
      have PS := Lib.hid (trip_is VS.out his)
      have PY : Hid (IsR wr (.agg #[.bool (triR Y).1, .slice A5 (triR Y).2.1.length c5, .slice A4 (triR Y).2.2.length c4]) Y) := hiy
      have PZ : Hid (IsR wr (.agg #[.bool (triR Z).1, .slice A3 (triR Z).2.1.length c3, .slice A2 (triR Z).2.2.length c2]) Z) := hiz
      obtain ⟨t0_, h0_⟩ : ∃ x, t.1 = x := ⟨_, rfl⟩
      obtain ⟨t1_, h1_⟩ : ∃ x, t.2.1.length = x := ⟨_, rfl⟩
      obtain ⟨t2_, h2_⟩ : ∃ x, t.2.2.length = x := ⟨_, rfl⟩
      rw [h0_, h1_, h2_] at PT
      rw [h0_] at y0
      rw [h1_] at y1
      rw [h2_] at y2
      clear h0_ h1_ h2_
      obtain ⟨s0_, h0_⟩ : ∃ x, s.1 = x := ⟨_, rfl⟩
      obtain ⟨s1_, h1_⟩ : ∃ x, s.2.1.length = x := ⟨_, rfl⟩
      obtain ⟨s2_, h2_⟩ : ∃ x, s.2.2.length = x := ⟨_, rfl⟩
      rw [h0_, h1_, h2_] at PS
      rw [h0_] at p0
      rw [h1_] at p1
      rw [h2_] at p2
      clear h0_ h1_ h2_
      obtain ⟨u0_, h0_⟩ : ∃ x, (triR Y).1 = x := ⟨_, rfl⟩
      obtain ⟨u1_, h1_⟩ : ∃ x, (triR Y).2.1.length = x := ⟨_, rfl⟩
      obtain ⟨u2_, h2_⟩ : ∃ x, (triR Y).2.2.length = x := ⟨_, rfl⟩
      rw [h0_, h1_, h2_] at PY
      rw [h0_] at q0
      rw [h1_] at q1
      rw [h2_] at q2
      clear h0_ h1_ h2_
      obtain ⟨z0_, h0_⟩ : ∃ x, (triR Z).1 = x := ⟨_, rfl⟩
      obtain ⟨z1_, h1_⟩ : ∃ x, (triR Z).2.1.length = x := ⟨_, rfl⟩
      obtain ⟨z2_, h2_⟩ : ∃ x, (triR Z).2.2.length = x := ⟨_, rfl⟩
      rw [h0_, h1_, h2_] at PZ
      rw [h0_] at r0
      rw [h1_] at r1
      rw [h2_] at r2
      clear h0_ h1_ h2_
      have HS := Lib.hid hadd
      obtain ⟨wq, rfl⟩ : ∃ W, W = wr := ⟨wr, rfl⟩
      have HC11 : Hid (∀ W, Below wq.heap.size wq W → (W.cell? ⟨gX, 0, none⟩ = some (.int .i64 GA) ∧ W.cell? ⟨gX, 1, none⟩ = some (.slice (some ⟨b4, o4, none⟩) m c1)) ∧ (W.cell? ⟨gX + 1, 0, none⟩ = some (.int .i64 GB) ∧ W.cell? ⟨gX + 1, 1, none⟩ = some (.slice (some ⟨b5, o5, none⟩) m d1)) ∧ (W.cell? ⟨b4, o4 + k * 3, none⟩ = some (.bool u0_) ∧ W.cell? ⟨b4, o4 + k * 3 + 1, none⟩ = some (.slice A5 u1_ c5) ∧ W.cell? ⟨b4, o4 + k * 3 + 2, none⟩ = some (.slice A4 u2_ c4)) ∧ (W.cell? ⟨b5, o5 + k * 3, none⟩ = some (.bool z0_) ∧ W.cell? ⟨b5, o5 + k * 3 + 1, none⟩ = some (.slice A3 z1_ c3) ∧ W.cell? ⟨b5, o5 + k * 3 + 2, none⟩ = some (.slice A2 z2_ c2))) := fun W h => ⟨(CX.out.on h).two, (CY.out.on h).two, ⟨(h.cell (p := ⟨b4, o4 + k * 3, none⟩) hb4).trans q0, (h.cell (p := ⟨b4, o4 + k * 3 + 1, none⟩) hb4).trans q1, (h.cell (p := ⟨b4, o4 + k * 3 + 2, none⟩) hb4).trans q2⟩, ⟨(h.cell (p := ⟨b5, o5 + k * 3, none⟩) hb5).trans r0, (h.cell (p := ⟨b5, o5 + k * 3 + 1, none⟩) hb5).trans r1, (h.cell (p := ⟨b5, o5 + k * 3 + 2, none⟩) hb5).trans r2⟩⟩
      have HCB : Hid (∀ W, Below wq.heap.size wq W → (W.cell? ⟨w.heap.size, 0, none⟩ = some (.int .i64 GA) ∧ W.cell? ⟨w.heap.size, 1, none⟩ = some (.slice (some ⟨b2, o2, none⟩) m c)) ∧ (W.cell? ⟨w.heap.size + 1, 0, none⟩ = some (.int .i64 GB) ∧ W.cell? ⟨w.heap.size + 1, 1, none⟩ = some (.slice (some ⟨b3, o3, none⟩) m d)) ∧ (W.cell? ⟨b2, o2 + k * 3, none⟩ = some (.bool t0_) ∧ W.cell? ⟨b2, o2 + k * 3 + 1, none⟩ = some (.slice A6 t1_ c6) ∧ W.cell? ⟨b2, o2 + k * 3 + 2, none⟩ = some (.slice A8 t2_ c8)) ∧ (W.cell? ⟨b3, o3 + k * 3, none⟩ = some (.bool s0_) ∧ W.cell? ⟨b3, o3 + k * 3 + 1, none⟩ = some (.slice A7 s1_ c7) ∧ W.cell? ⟨b3, o3 + k * 3 + 2, none⟩ = some (.slice A9 s2_ c9))) := fun W h => ⟨(C0.out.on h).two, (C1.out.on h).two, ⟨(h.cell (p := ⟨b2, o2 + k * 3, none⟩) hb2).trans y0, (h.cell (p := ⟨b2, o2 + k * 3 + 1, none⟩) hb2).trans y1, (h.cell (p := ⟨b2, o2 + k * 3 + 2, none⟩) hb2).trans y2⟩, ⟨(h.cell (p := ⟨b3, o3 + k * 3, none⟩) hb3).trans p0, (h.cell (p := ⟨b3, o3 + k * 3 + 1, none⟩) hb3).trans p1, (h.cell (p := ⟨b3, o3 + k * 3 + 2, none⟩) hb3).trans p2⟩⟩
      have KA := Lib.hid fun a b W h1 h2 => x_Add Y Z FY.out FZ.out a b W h1 h2
      have KB := Lib.hid fun a b W h1 h2 => x_Add (rT t) (rT s) FP.out FS.out a b W h1 h2
      obtain ⟨F1, hF1⟩ : ∃ x, okE (sumOk Y Z) = x := ⟨_, rfl⟩
      obtain ⟨F2, hF2⟩ : ∃ x, okE (sumOk (rT t) (rT s)) = x := ⟨_, rfl⟩
      rw [hF1, hadd] at KA
      rw [hF2] at KB
      clear ht hs hX hY hZ hsum hadd hin his hiy hiz y0 y1 y2 p0 p1 p2 q0 q1 q2 r0 r1 r2 hF1 hF2 hZZ
      obtain ⟨⟨x0, x1⟩, ⟨x2, x3⟩, ⟨q0, q1, q2⟩, r0, r1, r2⟩ := HC11.out _ (Below.refl _ _)
      go_upto_region 11 with fail
      go_cut [11, 12] from 83 to 129 (fun x y wz => Boxed wq F1 (rT t + rT s) x y wz)
      case first =>
        go_region_held3 (fun W => (W.cell? ⟨gX, 0, none⟩ = some (.int .i64 GA) ∧ W.cell? ⟨gX, 1, none⟩ = some (.slice (some ⟨b4, o4, none⟩) m c1)) ∧ (W.cell? ⟨gX + 1, 0, none⟩ = some (.int .i64 GB) ∧ W.cell? ⟨gX + 1, 1, none⟩ = some (.slice (some ⟨b5, o5, none⟩) m d1)) ∧ (W.cell? ⟨b4, o4 + k * 3, none⟩ = some (.bool u0_) ∧ W.cell? ⟨b4, o4 + k * 3 + 1, none⟩ = some (.slice A5 u1_ c5) ∧ W.cell? ⟨b4, o4 + k * 3 + 2, none⟩ = some (.slice A4 u2_ c4)) ∧ (W.cell? ⟨b5, o5 + k * 3, none⟩ = some (.bool z0_) ∧ W.cell? ⟨b5, o5 + k * 3 + 1, none⟩ = some (.slice A3 z1_ c3) ∧ W.cell? ⟨b5, o5 + k * 3 + 2, none⟩ = some (.slice A2 z2_ c2)))
          (first | exact (HC11.out _ (Below.refl _ _)) | exact (HC11.out _ (drew_below _)) | exact (HC11.out _ (below_drew (below_alloc _ _))) | exact (HC11.out _ (bstep (drew_below _) hb6)) | exact (HC11.out _ (bstep (below_drew (below_alloc _ _)) hb6)) | exact (HC11.out _ (bstep (bstep (drew_below _) hb6) (below_alloc _ _))) | exact (HC11.out _ (Rw.below_put3 (bstep (below_drew (below_alloc _ _)) hb6) (Nat.le_refl _) _ _ _)))
          ((go_at_call 31; (refine (KA.out _ _ _ ?_ ?_).mono ?_); (first | exact PY.out.on (drew_below _) | exact PY.out.on (below_drew (below_alloc _ _))); (first | exact PZ.out.on (drew_below _) | exact PZ.out.on (below_drew (below_alloc _ _))); rintro e w8 h8; obtain ⟨b6, A10, n8, c10, B8, m8, d8, rfl, ho6, hb6⟩ := h8.open_; have HO6 := Lib.hid ho6; clear h8 ho6; (first | (have hz6 := Lib.hid (after_zero hb6); obtain ⟨s0, s1, s2⟩ := hz6.out.three; obtain ⟨v0, v1, v2⟩ := hz6.out.warm3) | skip)))
        all_goals
          have hbw := cl_below (w := wq) (by first | exact Or.inl hb6 | exact Or.inr hb6)
          go_wp2_with fail
          go_meet
          case rel => first
            | exact Boxed.new HO6.out hbw
            | exact Boxed.put HO6.out hbw hz6.out (Nat.le_refl _)
      case rest =>
      obtain ⟨gS, s11, S12, s13, s14, S15, s16, s17, rfl, rfl, hc7, ho7, hb, -⟩ := hcut
      have CS := Lib.hid hc7
      have OS := Lib.hid ho7
      have HBa := Lib.hid hb
      have PT2 := Lib.hid (PT.out.on hb)
      have PS2 := Lib.hid (PS.out.on hb)
      obtain ⟨wq2, rfl⟩ : ∃ W, W = wc := ⟨wc, rfl⟩
      have HC12 : Hid (∀ W, Below wq2.heap.size wq2 W → (W.cell? ⟨w.heap.size, 0, none⟩ = some (.int .i64 GA) ∧ W.cell? ⟨w.heap.size, 1, none⟩ = some (.slice (some ⟨b2, o2, none⟩) m c)) ∧ (W.cell? ⟨w.heap.size + 1, 0, none⟩ = some (.int .i64 GB) ∧ W.cell? ⟨w.heap.size + 1, 1, none⟩ = some (.slice (some ⟨b3, o3, none⟩) m d)) ∧ (W.cell? ⟨b2, o2 + k * 3, none⟩ = some (.bool t0_) ∧ W.cell? ⟨b2, o2 + k * 3 + 1, none⟩ = some (.slice A6 t1_ c6) ∧ W.cell? ⟨b2, o2 + k * 3 + 2, none⟩ = some (.slice A8 t2_ c8)) ∧ (W.cell? ⟨b3, o3 + k * 3, none⟩ = some (.bool s0_) ∧ W.cell? ⟨b3, o3 + k * 3 + 1, none⟩ = some (.slice A7 s1_ c7) ∧ W.cell? ⟨b3, o3 + k * 3 + 2, none⟩ = some (.slice A9 s2_ c9))) := fun W h => HCB.out W (bstep hb h)
      clear hc7 ho7 hb x0 x1 x2 x3 q0 q1 q2 r0 r1 r2
      obtain ⟨⟨x0, x1⟩, ⟨x2, x3⟩, ⟨q0, q1, q2⟩, r0, r1, r2⟩ := HC12.out _ (Below.refl _ _)
      obtain ⟨wq0, rfl⟩ : ∃ W, W = wq := ⟨wq, rfl⟩
      obtain ⟨wq, rfl⟩ : ∃ W, W = wq2 := ⟨wq2, rfl⟩
      go_upto_region 12 with fail
      go_cut [13, 14] from 83 to 129 (fun x y wz => Boxed wq F2 (rT t + rT s) x y wz)
      case first =>
        go_region_held3 (fun W => (W.cell? ⟨w.heap.size, 0, none⟩ = some (.int .i64 GA) ∧ W.cell? ⟨w.heap.size, 1, none⟩ = some (.slice (some ⟨b2, o2, none⟩) m c)) ∧ (W.cell? ⟨w.heap.size + 1, 0, none⟩ = some (.int .i64 GB) ∧ W.cell? ⟨w.heap.size + 1, 1, none⟩ = some (.slice (some ⟨b3, o3, none⟩) m d)) ∧ (W.cell? ⟨b2, o2 + k * 3, none⟩ = some (.bool t0_) ∧ W.cell? ⟨b2, o2 + k * 3 + 1, none⟩ = some (.slice A6 t1_ c6) ∧ W.cell? ⟨b2, o2 + k * 3 + 2, none⟩ = some (.slice A8 t2_ c8)) ∧ (W.cell? ⟨b3, o3 + k * 3, none⟩ = some (.bool s0_) ∧ W.cell? ⟨b3, o3 + k * 3 + 1, none⟩ = some (.slice A7 s1_ c7) ∧ W.cell? ⟨b3, o3 + k * 3 + 2, none⟩ = some (.slice A9 s2_ c9)))
          (first | exact (HC12.out _ (Below.refl _ _)) | exact (HC12.out _ (drew_below _)) | exact (HC12.out _ (below_drew (below_alloc _ _))) | exact (HC12.out _ (bstep (drew_below _) hb6)) | exact (HC12.out _ (bstep (below_drew (below_alloc _ _)) hb6)) | exact (HC12.out _ (bstep (bstep (drew_below _) hb6) (below_alloc _ _))) | exact (HC12.out _ (Rw.below_put3 (bstep (below_drew (below_alloc _ _)) hb6) (Nat.le_refl _) _ _ _)))
          ((go_at_call 31; (refine (KB.out _ _ _ ?_ ?_).mono ?_); (first | exact PT2.out.on (drew_below _) | exact PT2.out.on (below_drew (below_alloc _ _))); (first | exact PS2.out.on (drew_below _) | exact PS2.out.on (below_drew (below_alloc _ _))); rintro e w8 h8; obtain ⟨b6, A10, n8, c10, B8, m8, d8, rfl, ho6, hb6⟩ := h8.open_; have HO6 := Lib.hid ho6; clear h8 ho6; (first | (have hz6 := Lib.hid (after_zero hb6); obtain ⟨s0, s1, s2⟩ := hz6.out.three; obtain ⟨v0, v1, v2⟩ := hz6.out.warm3) | skip)))
        all_goals
          have hbw := cl_below (w := wq) (by first | exact Or.inl hb6 | exact Or.inr hb6)
          go_wp2_with fail
          go_meet
          case rel => first
            | exact Boxed.new HO6.out hbw
            | exact Boxed.put HO6.out hbw hz6.out (Nat.le_refl _)
      case rest =>
      obtain ⟨gU, s21, S22, s23, s24, S25, s26, s27, rfl, rfl, hc7, ho7, hb, -⟩ := hcut
      have CU := Lib.hid hc7
      have OU := Lib.hid ho7
      have CS2 := Lib.hid (CS.out.on hb)
      have OS2 := Lib.hid (OS.out.on hb)
      have HBb := Lib.hid (bstep (bstep BL.out HBa.out) hb)
      clear hc7 ho7 hb x0 x1 x2 x3 q0 q1 q2 r0 r1 r2
      obtain ⟨wy, rfl⟩ : ∃ W, W = wc := ⟨wc, rfl⟩
      by_cases e1 : F1 = 0
      rotate_left
      · obtain ⟨z1, z2⟩ := ne_zero e1
        clear e1
        go_wp2_with fail
        go_roundw
        case rel => exact ⟨k + 1, by omega, by go_num, HBb.out⟩
        case measure => simp [RowKit.intOf]; omega
      subst e1
      by_cases e2 : F2 = 0
      rotate_left
      · obtain ⟨z1, z2⟩ := ne_zero e2
        clear e2
        go_wp2_with fail
        go_roundw
        case rel => exact ⟨k + 1, by omega, by go_num, HBb.out⟩
        case measure => simp [RowKit.intOf]; omega
      subst e2
      obtain ⟨x0, x1, x2⟩ := CS2.out.three
      obtain ⟨y0, y1, y2⟩ := CU.out.three
      go_wp2_with fail
      refine (same_numS (t := triR (rT t + rT s)) (OS2.out.zero rfl) (OU.out.zero rfl)).mono ?_
      rintro e wz ⟨rfl, hb⟩
      have HBc := Lib.hid (bstep HBb.out hb)
      clear hb x0 x1 x2 y0 y1 y2
      go_wp2_with fail
      go_roundw
      case rel => exact ⟨k + 1, by omega, by go_num, HBc.out⟩
      case measure => simp [RowKit.intOf]; omega
    · obtain rfl : k = m := by omega
      have KC1 := p_Check GA (ts (drY L mass)) A1 k c1 N1.out.1.1 wr X1.out (by have := HN8.out; omega)
      have hck := dr_check HDE.out
      obtain ⟨E3, hE3⟩ : ∃ x, ckT GA (ts (drY L mass)) = x := ⟨_, rfl⟩
      rw [hE3] at KC1 hck
      have HK1 := Lib.hid KC1
      have KC2 := Lib.hid fun (W : World) (h : Rats W B1 (ts (poV (qs M) (drX L mass)))) => p_Check GB (ts (poV (qs M) (drX L mass))) B1 k d1 N1.out.2.1 W h (by have := HN8.out; omega)
      rw [HC2.out] at KC2
      clear KC1 hE3
      obtain ⟨x0, x1⟩ := CX.out.two
      go_wp2_with fail
      refine HK1.out.mono ?_
      rintro e w8 ⟨rfl, hb⟩
      replace HB := Lib.hid (bstep HB.out hb)
      replace CY := Lib.hid (CY.out.on hb)
      replace Y1 := Lib.hid (Rats.on Y1.out hb)
      clear hb x0 x1
      obtain ⟨y0, y1⟩ := CY.out.two
      rcases hck with he | he
      · subst he
        go_wp2_with fail
        refine (KC2.out _ Y1.out).mono ?_
        rintro e w9 ⟨rfl, hb⟩
        replace HB := Lib.hid (bstep HB.out hb)
        clear hb y0 y1
        go_wp2_with fail
        refine (KQ.out _).mono ?_
        rintro e wq ⟨rfl, hb⟩
        have HF := Lib.hid (bstep HB.out hb)
        clear hb
        go_wp2_with fail
        go_ret
        exact ⟨rfl, HF.out⟩
      · subst he
        go_wp2_with fail
        refine (KC2.out _ Y1.out).mono ?_
        rintro e w9 ⟨rfl, hb⟩
        replace HB := Lib.hid (bstep HB.out hb)
        clear hb y0 y1
        go_wp2_with fail
        refine (KQ.out _).mono ?_
        rintro e wq ⟨rfl, hb⟩
        have HF := Lib.hid (bstep HB.out hb)
        clear hb
        go_wp2_with fail
        go_ret
        exact ⟨rfl, HF.out⟩
#print axioms walk_TankPoured
end Go.Proofs.YtgmlccjjhmhgbaaGreat.Tank
