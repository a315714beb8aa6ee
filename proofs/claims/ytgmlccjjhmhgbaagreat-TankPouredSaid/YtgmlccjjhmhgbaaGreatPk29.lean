/- Several texts in one: TankPJ, TankH, TankPK, TankU. -/
import Derived.Test.YtgmlccjjhmhgbaaGreatPk28
import Derived.Test.YtgmlccjjhmhgbaaGreatPk24
import Derived.Test.YtgmlccjjhmhgbaaGreatPk26
/- The program: Pour. -/
namespace Go.Proofs.YtgmlccjjhmhgbaaGreat.Tank
open Go.ChangeShapes Go.WideShapes Go.RowKit Go.Lib
open Go.Proofs.YtgmlccjjhmhgbaaGreat.Rw (Rd Row Kd Off glt get_lt below_alloc bstep wrap_id below_drewN below_drew drew_below take_snoc_of)
set_option linter.unusedVariables false
set_option maxRecDepth 100000

theorem dr_fit {cap : Int} {L : List Trip} {mass : Int} (h : drE cap L mass = 0) : (∀ q ∈ drX L mass, fitR q = true) ∧ (∀ q ∈ drY L mass, fitR q = true) := by
  have hd := drE_of h
  have hL : ∀ t ∈ L, vT t = true := fun t ht => (hd.t.all t ht).1
  have key : ∀ p ∈ qs L, erD mass (sumV L) p = 0 := fun p hp => by
    by_cases hm : mass = 0
    · subst hm; exact (erD_zero (qs_fit hL p hp)).1
    · rw [(erD_tk hm _ _).1]; exact hd.tk hm p hp
  refine ⟨fun q hq => ?_, fun q hq => ?_⟩
  · rw [drX_pt] at hq
    obtain ⟨p, hp, rfl⟩ := List.mem_map.mp hq
    exact ptV_fit (erD_of (key p hp)).1
  · rw [drY_le hL] at hq
    obtain ⟨p, hp, rfl⟩ := List.mem_map.mp hq
    exact leD_fit (qs_fit hL p hp) (key p hp)
set_option maxHeartbeats 1600000 in
theorem p_Pour1 {T : List Trip} {A : Option Addr} {n c gt k : Nat} {t : Trip} {w : World} (hn : n = T.length) (ht : T[k]? = some t) (hr : Rats w A T) (hg : Rw.Cel w gt [.slice A n c]) :
    Calls Tryz.prog 57 #[.int .i64 k, .pointer (some ⟨gt, 0, none⟩)] w fun e W' => ∃ b A n c B' m d, e = .returned (.agg #[.bool b, .slice A n c, .slice B' m d]) ∧ InR W' (.agg #[.bool b, .slice A n c, .slice B' m d]) t.1 t.2.1 t.2.2 ∧ Below w.heap.size w W' := by
  have i1 : (k : Int) < (n : Int) := by have := glt ht; omega
  have i2 : (0 : Int) ≤ (k : Int) := by omega
  have hr0 := Rats.on hr (below_alloc w (.cells #[.bool false, .slice none 0 0, .slice none 0 0] 33))
  obtain ⟨b, off, A1, c1, A2, c2, rfl, hb, y0, y1, y2, hin⟩ := Rats.at_ hr0 ht
  obtain ⟨t0, ht0⟩ : ∃ x, t.1 = x := ⟨_, rfl⟩
  obtain ⟨p1, hp1⟩ : ∃ x, t.2.1.length = x := ⟨_, rfl⟩
  obtain ⟨p2, hp2⟩ : ∃ x, t.2.2.length = x := ⟨_, rfl⟩
  have hv1 : (Value.agg #[.bool t.1, .slice A1 t.2.1.length c1, .slice A2 t.2.2.length c2]) = .agg #[.bool t0, .slice A1 p1 c1, .slice A2 p2 c2] := by rw [ht0, hp1, hp2]
  rw [ht0] at y0
  rw [hp1] at y1
  rw [hp2] at y2
  rw [hv1] at hin
  have HI := Lib.hid hin
  have HY := Lib.hid (And.intro y0 (And.intro y1 y2))
  have HG := Lib.hid hg
  clear ht hr hr0 hn hin y0 y1 y2 ht0 hp1 hp2 hv1 hb hg
  go_enter Tryz.func57, Tryz.ntmps57
  go_upto_region 1 with fail
  obtain ⟨w0, hw0⟩ : ∃ W, w.alloc (.cells #[.bool false, .slice none 0 0, .slice none 0 0] 33) = W := ⟨_, rfl⟩
  have R0 : Hid (Rw.Cel w0 w.heap.size [.bool false, .slice none 0 0, .slice none 0 0]) := hw0 ▸ Rw.Cel.new w [_, _, _] _
  have B0 : Hid (Below w.heap.size w w0) := hw0 ▸ below_alloc _ _
  rw [hw0] at HY HI
  rw [hw0]
  clear hw0
  have G0 := Lib.hid (HG.out.on B0.out)
  have x0 := G0.out.at_ 0 _ rfl
  obtain ⟨y0, y1, y2⟩ := HY.out
  obtain ⟨u0, u1, u2⟩ := R0.out.three
  obtain ⟨v0, v1, v2⟩ := R0.out.warm3
  go_wp2_with fail
  exact bodyPost_ret (res_rat Tryz.results57 rfl (R0.out.put3 _ _ _)) rfl ⟨_, _, _, _, _, _, _, rfl, InR.put3 HI.out (cel_root R0.out) _ _ _, Rw.below_put3 B0.out (Nat.le_refl _) _ _ _⟩
theorem amt_pour {Q : List Rat} {A : Option Addr} {n c gt B : Nat} (hn : n = (ts Q).length) (hQ : ∀ q ∈ Q, fitR q = true) (hA : ∀ b off, A = some ⟨b, off, none⟩ → b < B) (hg : gt < B) :
    Amt 57 #[] #[.pointer (some ⟨gt, 0, none⟩)] Q B (fun W => Rats W A (ts Q) ∧ Rw.Cel W gt [.slice A n c]) where
  eg := enters_of Tryz.func57 (by kernel_rfl) rfl
  stab := fun W W' h hs hb hk => ⟨Rats.kep h.1 hA (ts_vZ hQ) hb hk, h.2.below hb hg⟩
  step := fun k q W hq hs h => by
    refine (p_Pour1 hn (ts_at hq) h.1 h.2).mono fun e w' hh => ?_
    exact hh
/-- Two tanks and an error. -/
def PoR (w : World) (err cx : Int) (X : List Trip) (cy : Int) (Y : List Trip) (e : Ending) (w' : World) : Prop :=
  ∃ v u, e = .returned (.tuple #[v, u, .int .i64 err]) ∧ InT w' v cx X ∧ InT w' u cy Y ∧ Below w.heap.size w w'
theorem res_tanks {fn : Func} {p q u : Tmp} (h : fn.results = #[.cell p 24, .cell q 24, .tmp u]) {tmps : Array Value} {w : World} {g k : Nat} {u0 u1 v0 v1 : Value} (hp : tmps.getD p undef = .pointer (some ⟨g, 0, none⟩)) (hq : tmps.getD q undef = .pointer (some ⟨k, 0, none⟩))
    (hc : Rw.Cel w g [u0, u1]) (hd : Rw.Cel w k [v0, v1]) : (results fn tmps).run Tryz.prog w = .ok (.tuple #[.agg #[u0, u1], .agg #[v0, v1], tmps.getD u undef]) w := by
  have hp' : tmps[p]?.getD undef = .pointer (some ⟨g, 0, none⟩) := by simpa using hp
  have hq' : tmps[q]?.getD undef = .pointer (some ⟨k, 0, none⟩) := by simpa using hq
  obtain ⟨h0, h1⟩ := hc.two
  obtain ⟨k0, k1⟩ := hd.two
  simp [results, h, hp', hq', go_sem, h0, h1, k0, k1]
theorem far2 {w : World} {g k : Nat} {us : List Value} (h : Rw.Cel w g us) (hne : k ≠ g) (x y : Value) : Rw.Cel ((w.setCell ⟨k, 0, none⟩ x).setCell ⟨k, 1, none⟩ y) g us :=
  (h.far (p := ⟨k, 0, none⟩) hne x).far (p := ⟨k, 1, none⟩) hne y
theorem po_no {c : Int} {L : List Trip} {d : Int} {M : List Trip} {mass E : Int} (h : poE c L d M mass = E) (h0 : ¬ E = 0) : (∀ x, poC c L d M mass x = 0) ∧ poX c L d M mass = [] ∧ poY c L d M mass = [] := by
  unfold poC poX poY
  rw [h, if_neg h0, if_neg h0]; exact ⟨fun x => if_neg h0, rfl, rfl⟩
theorem po_yes {c : Int} {L : List Trip} {d : Int} {M : List Trip} {mass : Int} (h : poE c L d M mass = 0) : (∀ x, poC c L d M mass x = x) ∧ poX c L d M mass = ts (drY L mass) ∧ poY c L d M mass = ts (poV (qs M) (drX L mass)) := by
  unfold poC poX poY
  rw [if_pos h, if_pos h]; exact ⟨fun x => if_pos h, rfl, rfl⟩
theorem poE_a {c : Int} {L : List Trip} {d : Int} {M : List Trip} {mass : Int} (h : ¬ ckT c L = 0) : poE c L d M mass = ckT c L := if_neg h
theorem poE_b {c : Int} {L : List Trip} {d : Int} {M : List Trip} {mass : Int} (h : ckT c L = 0) (h2 : ¬ ckT d M = 0) : poE c L d M mass = ckT d M := by unfold poE; rw [if_pos h, if_neg h2]
theorem poE_len {c : Int} {L : List Trip} {d : Int} {M : List Trip} {mass : Int} (h : ckT c L = 0) (h2 : ckT d M = 0) (h3 : ¬ L.length = M.length) : poE c L d M mass = 17 := by unfold poE; rw [if_pos h, if_pos h2, if_neg h3]
theorem poE_dr {c : Int} {L : List Trip} {d : Int} {M : List Trip} {mass : Int} (h : ckT c L = 0) (h2 : ckT d M = 0) (h3 : L.length = M.length) (h4 : ¬ drE c L mass = 0) : poE c L d M mass = drE c L mass := by unfold poE; rw [if_pos h, if_pos h2, if_pos h3, if_neg h4]
theorem poE_fl {c : Int} {L : List Trip} {d : Int} {M : List Trip} {mass : Int} (h : ckT c L = 0) (h2 : ckT d M = 0) (h3 : L.length = M.length) (h4 : drE c L mass = 0) : poE c L d M mass = flE d (qs M) (drX L mass) := by unfold poE flE; rw [if_pos h, if_pos h2, if_pos h3, if_pos h4]
theorem PoR.none_ {w w' : World} {err : Int} (hb : Below w.heap.size w w') : PoR w err 0 [] 0 [] (.returned (.tuple #[.agg #[.int .i64 0, .slice none 0 0], .agg #[.int .i64 0, .slice none 0 0], .int .i64 err])) w' := ⟨_, _, rfl, InT.zero _, InT.zero _, hb⟩
set_option maxHeartbeats 6400000 in
theorem p_Pour (ca : Int) (L : List Trip) (A : Option Addr) (n c : Nat) (hn : n = L.length) (cb : Int) (M : List Trip) (B : Option Addr) (n' c' : Nat) (hn' : n' = M.length) (mass : Int) (w : World) (ha : Rats w A L) (hb : Rats w B M) (hm : n ≤ 9223372036854775807) (hm' : n' ≤ 9223372036854775807) :
    Calls Tryz.prog 25 #[.agg #[.int .i64 ca, .slice A n c], .agg #[.int .i64 cb, .slice B n' c'], .int .i64 mass] w (PoR w (poE ca L cb M mass) (poC ca L cb M mass ca) (poX ca L cb M mass) (poC ca L cb M mass cb) (poY ca L cb M mass)) := by
  have HA := Lib.hid ha
  have HB := Lib.hid hb
  have K1 := Lib.hid fun (W : World) (h : Rats W A L) => p_Check ca L A n c hn W h hm
  have K2 := Lib.hid fun (W : World) (h : Rats W B M) => p_Check cb M B n' c' hn' W h hm'
  have KD := Lib.hid fun (W : World) (h : Rats W A L) => p_Draw ca L A n c hn mass W h hm
  obtain ⟨E1, hE1⟩ : ∃ E, ckT ca L = E := ⟨_, rfl⟩
  obtain ⟨E2, hE2⟩ : ∃ E, ckT cb M = E := ⟨_, rfl⟩
  obtain ⟨D, hD⟩ : ∃ D, drE ca L mass = D := ⟨_, rfl⟩
  obtain ⟨G, hG⟩ : ∃ G, poE ca L cb M mass = G := ⟨_, rfl⟩
  have hno := fun h => po_no hG h
  have hyes := fun h : G = 0 => po_yes (hG.trans h)
  have hdyes := fun h : D = 0 => dr_yes (hD.trans h)
  have hdfit := fun h : D = 0 => dr_fit (hD.trans h)
  obtain ⟨GA, hGA⟩ : ∃ x, poC ca L cb M mass ca = x := ⟨_, rfl⟩
  obtain ⟨GB, hGB⟩ : ∃ x, poC ca L cb M mass cb = x := ⟨_, rfl⟩
  obtain ⟨GX, hGX⟩ : ∃ x, poX ca L cb M mass = x := ⟨_, rfl⟩
  obtain ⟨GY, hGY⟩ : ∃ x, poY ca L cb M mass = x := ⟨_, rfl⟩
  obtain ⟨DC, hDC⟩ : ∃ x, drC ca L mass = x := ⟨_, rfl⟩
  obtain ⟨DP, hDP⟩ : ∃ x, drP ca L mass = x := ⟨_, rfl⟩
  obtain ⟨DT, hDT⟩ : ∃ x, drT ca L mass = x := ⟨_, rfl⟩
  have NO : Hid (¬ G = 0 → GA = 0 ∧ GB = 0 ∧ GX = [] ∧ GY = []) := fun h => by
    obtain ⟨h1, h2, h3⟩ := hno h
    exact ⟨hGA ▸ h1 ca, hGB ▸ h1 cb, hGX ▸ h2, hGY ▸ h3⟩
  have YES : Hid (G = 0 → GA = ca ∧ GB = cb ∧ GX = ts (drY L mass) ∧ GY = ts (poV (qs M) (drX L mass))) := fun h => by
    obtain ⟨h1, h2, h3⟩ := hyes h
    exact ⟨hGA ▸ h1 ca, hGB ▸ h1 cb, hGX ▸ h2, hGY ▸ h3⟩
  have DYES : Hid (D = 0 → DC = ca ∧ DT = ts (drX L mass) ∧ DP = ts (drY L mass)) := fun h => by
    obtain ⟨h1, h2, h3⟩ := hdyes h
    exact ⟨hDC ▸ h1, hDT ▸ h2, hDP ▸ h3⟩
  have DFIT := Lib.hid hdfit
  rw [hE1] at K1
  rw [hE2] at K2
  rw [hD, hDC, hDP, hDT] at KD
  rw [hG, hGA, hGB, hGX, hGY]
  have HE := Lib.hid (And.intro hE1 (And.intro hE2 (And.intro hD hG)))
  have HN := Lib.hid (And.intro hn hn')
  clear ha hb hn hn' hE1 hE2 hD hG hno hyes hdyes hdfit hGA hGB hGX hGY hDC hDP hDT hm hm'
  go_enter Tryz.func25, Tryz.ntmps25
  go_upto_region 1 with fail
  obtain ⟨w0, hw0⟩ : ∃ W, (((w.alloc (.cells #[.int .i64 ca, .slice A n c] 24)).alloc (.cells #[.int .i64 cb, .slice B n' c'] 24)).alloc (.cells #[.int .i64 0, .slice none 0 0] 24)).alloc (.cells #[.int .i64 0, .slice none 0 0] 24) = W := ⟨_, rfl⟩
  have C0 : Hid (Rw.Cel w0 w.heap.size [.int .i64 ca, .slice A n c]) := hw0 ▸ (((Rw.Cel.new w [_, _] _).alloc _).alloc _).alloc _
  have F0 : Hid (Rw.Cel w0 (w.heap.size + 1) [.int .i64 cb, .slice B n' c']) := hw0 ▸ ((Rw.Cel.new_at _ [_, _] _ (by simp)).alloc _).alloc _
  have R0 : Hid (Rw.Cel w0 (w.heap.size + 2) [.int .i64 0, .slice none 0 0]) := hw0 ▸ (Rw.Cel.new_at _ [_, _] _ (by simp)).alloc _
  have S0 : Hid (Rw.Cel w0 (w.heap.size + 3) [.int .i64 0, .slice none 0 0]) := hw0 ▸ Rw.Cel.new_at _ [_, _] _ (by simp)
  have B0 : Hid (Below w.heap.size w w0) := hw0 ▸ bstep (bstep (bstep (below_alloc _ _) (below_alloc _ _)) (below_alloc _ _)) (below_alloc _ _)
  first | rw [hw0] | skip
  clear hw0
  obtain ⟨x0, x1⟩ := C0.out.two
  obtain ⟨y0, y1⟩ := F0.out.two
  go_upto_region 2 with fail
  obtain ⟨w1, hw1⟩ : ∃ W, w0.alloc (.cells #[.int .i64 ca, .slice A n c, .int .i64 cb, .slice B n' c'] 24) = W := ⟨_, rfl⟩
  obtain ⟨g, hg⟩ : ∃ g, w0.heap.size = g := ⟨_, rfl⟩
  have b1 : Below w0.heap.size w0 w1 := hw1 ▸ below_alloc _ _
  have Q1 : Hid (Rw.Cel w1 g [.int .i64 ca, .slice A n c, .int .i64 cb, .slice B n' c']) := hw1 ▸ hg ▸ Rw.Cel.new w0 [_, _, _, _] _
  have B1 := Lib.hid (bstep B0.out b1)
  have C1 := Lib.hid (C0.out.on b1)
  have F1 := Lib.hid (F0.out.on b1)
  have R1 := Lib.hid (R0.out.on b1)
  have S1 := Lib.hid (S0.out.on b1)
  rw [hw1, hg]
  clear hw1 hg b1 x0 x1 y0 y1
  go_loopw [20, 10, 11] (fun i _ _ wr => Below w1.heap.size w1 wr ∧ (i = .int .i64 0 ∨ (i = .int .i64 1 ∧ E1 = 0) ∨ (i = .int .i64 2 ∧ E1 = 0 ∧ E2 = 0))) (fun i _ _ _ => 2 - (RowKit.intOf i).toNat)
  case atStart => exact ⟨Below.refl _ _, Or.inl rfl⟩
  case round =>
    obtain ⟨hbel, hi⟩ := hrel
    have HW := Lib.hid hbel
    have BW := Lib.hid (bstep B1.out hbel)
    clear hbel
    obtain ⟨c0, c1, c2, c3⟩ : wr.cell? ⟨g, 0, none⟩ = some (.int .i64 ca) ∧ wr.cell? ⟨g, 1, none⟩ = some (.slice A n c) ∧ wr.cell? ⟨g, 2, none⟩ = some (.int .i64 cb) ∧ wr.cell? ⟨g, 3, none⟩ = some (.slice B n' c') := ⟨(Q1.out.on HW.out).at_ 0 _ rfl, (Q1.out.on HW.out).at_ 1 _ rfl, (Q1.out.on HW.out).at_ 2 _ rfl, (Q1.out.on HW.out).at_ 3 _ rfl⟩
    rcases hi with rfl | ⟨rfl, hz1⟩ | ⟨rfl, hz1, hz2⟩
    · go_upto_region 4 with fail
      obtain ⟨w2, hw2⟩ : ∃ W, wr.alloc (.cells #[.int .i64 ca, .slice A n c] 24) = W := ⟨_, rfl⟩
      have b2 : Below wr.heap.size wr w2 := hw2 ▸ below_alloc _ _
      have D2 : Hid (Rw.Cel w2 wr.heap.size [.int .i64 ca, .slice A n c]) := hw2 ▸ Rw.Cel.new wr [_, _] _
      have BW2 := Lib.hid (bstep BW.out b2)
      have HW2 := Lib.hid (bstep HW.out b2)
      rw [hw2]
      clear hw2 b2 c0 c1 c2 c3
      obtain ⟨x0, x1⟩ := D2.out.two
      by_cases hz : E1 = 0
      · subst hz
        go_wp2_with fail
        refine (K1.out w2 (Rats.on HA.out BW2.out)).mono ?_
        rintro e w3 ⟨rfl, hb3⟩
        have HW3 := Lib.hid (bstep HW2.out hb3)
        clear hb3 x0 x1
        go_wp2_with fail
        go_roundw
        case rel => exact ⟨HW3.out, Or.inr (Or.inl ⟨rfl, trivial⟩)⟩
        case measure => simp [RowKit.intOf]
      · obtain ⟨z1, z2⟩ := ne_zero hz
        obtain rfl : G = E1 := by rw [← HE.out.2.2.2, ← HE.out.1]; exact poE_a (by rw [HE.out.1]; exact hz)
        obtain ⟨f1, f2, f3, f4⟩ := NO.out hz
        subst f1; subst f2; subst f3; subst f4
        go_wp2_with fail
        refine (K1.out w2 (Rats.on HA.out BW2.out)).mono ?_
        rintro e w3 ⟨rfl, hb3⟩
        have BW3 := Lib.hid (bstep BW2.out hb3)
        have R3 := Lib.hid (R1.out.on (bstep HW2.out hb3))
        have S3 := Lib.hid (S1.out.on (bstep HW2.out hb3))
        clear hb3 x0 x1
        obtain ⟨u0, u1⟩ := R3.out.two
        obtain ⟨v0, v1⟩ := R3.out.warm2
        obtain ⟨u2, u3⟩ := S3.out.two
        obtain ⟨v2, v3⟩ := S3.out.warm2
        go_wp2_with fail
        exact bodyPost_ret (res_tanks Tryz.results25 rfl rfl (far2 (R3.out.put2 _ _) (by omega) _ _) ((far2 S3.out (by omega) _ _).put2 _ _)) rfl (PoR.none_ (Rw.below_put2 (Rw.below_put2 BW3.out (by omega) _ _) (by omega) _ _))
    · subst hz1
      go_upto_region 4 with fail
      obtain ⟨w2, hw2⟩ : ∃ W, wr.alloc (.cells #[.int .i64 cb, .slice B n' c'] 24) = W := ⟨_, rfl⟩
      have b2 : Below wr.heap.size wr w2 := hw2 ▸ below_alloc _ _
      have D2 : Hid (Rw.Cel w2 wr.heap.size [.int .i64 cb, .slice B n' c']) := hw2 ▸ Rw.Cel.new wr [_, _] _
      have BW2 := Lib.hid (bstep BW.out b2)
      have HW2 := Lib.hid (bstep HW.out b2)
      rw [hw2]
      clear hw2 b2 c0 c1 c2 c3
      obtain ⟨x0, x1⟩ := D2.out.two
      by_cases hz : E2 = 0
      · subst hz
        go_wp2_with fail
        refine (K2.out w2 (Rats.on HB.out BW2.out)).mono ?_
        rintro e w3 ⟨rfl, hb3⟩
        have HW3 := Lib.hid (bstep HW2.out hb3)
        clear hb3 x0 x1
        go_wp2_with fail
        go_roundw
        case rel => exact ⟨HW3.out, Or.inr (Or.inr ⟨rfl, trivial, trivial⟩)⟩
        case measure => simp [RowKit.intOf]
      · obtain ⟨z1, z2⟩ := ne_zero hz
        obtain rfl : G = E2 := by rw [← HE.out.2.2.2, ← HE.out.2.1]; exact poE_b HE.out.1 (by rw [HE.out.2.1]; exact hz)
        obtain ⟨f1, f2, f3, f4⟩ := NO.out hz
        subst f1; subst f2; subst f3; subst f4
        go_wp2_with fail
        refine (K2.out w2 (Rats.on HB.out BW2.out)).mono ?_
        rintro e w3 ⟨rfl, hb3⟩
        have BW3 := Lib.hid (bstep BW2.out hb3)
        have R3 := Lib.hid (R1.out.on (bstep HW2.out hb3))
        have S3 := Lib.hid (S1.out.on (bstep HW2.out hb3))
        clear hb3 x0 x1
        obtain ⟨u0, u1⟩ := R3.out.two
        obtain ⟨v0, v1⟩ := R3.out.warm2
        obtain ⟨u2, u3⟩ := S3.out.two
        obtain ⟨v2, v3⟩ := S3.out.warm2
        go_wp2_with fail
        exact bodyPost_ret (res_tanks Tryz.results25 rfl rfl (far2 (R3.out.put2 _ _) (by omega) _ _) ((far2 S3.out (by omega) _ _).put2 _ _)) rfl (PoR.none_ (Rw.below_put2 (Rw.below_put2 BW3.out (by omega) _ _) (by omega) _ _))
    · subst hz1; subst hz2
      clear c0 c1 c2 c3
      have C2 := Lib.hid (C1.out.on HW.out)
      have F2 := Lib.hid (F1.out.on HW.out)
      have R2 := Lib.hid (R1.out.on HW.out)
      have S2 := Lib.hid (S1.out.on HW.out)
      have A2 := Lib.hid (Rats.on HA.out BW.out)
      obtain ⟨wq, rfl⟩ : ∃ W, W = wr := ⟨wr, rfl⟩
      obtain ⟨x0, x1⟩ := C2.out.two
      obtain ⟨y0, y1⟩ := F2.out.two
      by_cases hl : n = n'
      rotate_left
      · have z1 : ((n : Int) != (n' : Int)) = true := by rw [bne, beq_false_of_ne (by omega)]; rfl
        have z2 : ((n : Int) == (n' : Int)) = false := beq_false_of_ne (by omega)
        obtain rfl : G = 17 := by rw [← HE.out.2.2.2]; exact poE_len HE.out.1 HE.out.2.1 (by rw [← HN.out.1, ← HN.out.2]; exact hl)
        obtain ⟨f1, f2, f3, f4⟩ := NO.out (by decide)
        subst f1; subst f2; subst f3; subst f4
        clear hl
        obtain ⟨u0, u1⟩ := R2.out.two
        obtain ⟨v0, v1⟩ := R2.out.warm2
        obtain ⟨u2, u3⟩ := S2.out.two
        obtain ⟨v2, v3⟩ := S2.out.warm2
        go_wp2_with fail
        exact bodyPost_ret (res_tanks Tryz.results25 rfl rfl (far2 (R2.out.put2 _ _) (by omega) _ _) ((far2 S2.out (by omega) _ _).put2 _ _)) rfl (PoR.none_ (Rw.below_put2 (Rw.below_put2 BW.out (by omega) _ _) (by omega) _ _))
      subst hl
      have z1 : ((n : Int) != (n : Int)) = false := by simp
      have z2 : ((n : Int) == (n : Int)) = true := by simp
      have HLM : Hid (L.length = M.length) := Lib.hid (by rw [← HN.out.1, ← HN.out.2])
      go_upto_region 10 with fail
      go_wp2_with fail
      refine (KD.out _ A2.out).mono ?_
      rintro e w5 ⟨v, A4, n4, c4, rfl, hT, hn4, hm4, hr4, hb⟩
      obtain ⟨A3, c3, rfl, hl3, hr3⟩ := hT
      obtain ⟨n3, hn3⟩ : ∃ n3, DP.length = n3 := ⟨_, rfl⟩
      rw [hn3]
      have F5 := Lib.hid (F2.out.on hb)
      have R5 := Lib.hid (R2.out.on hb)
      have S5 := Lib.hid (S2.out.on hb)
      have B5 := Lib.hid (bstep BW.out hb)
      have HR3 := Lib.hid (And.intro hr3 (And.intro hn3 hl3))
      have HR4 := Lib.hid (And.intro hr4 (And.intro hn4 hm4))
      clear hb hr3 hn3 hr4 hn4 hm4 hl3 x0 x1 y0 y1 z1 z2
      go_upto_region 11 with fail
      obtain ⟨w6, hw6⟩ : ∃ W, (w5.alloc (.cells #[.int .i64 DC, .slice A3 n3 c3] 24)).alloc (.cells #[.slice A4 n4 c4] 22) = W := ⟨_, rfl⟩
      obtain ⟨gx, hgx⟩ : ∃ g, w5.heap.size = g := ⟨_, rfl⟩
      have b6 : Below w5.heap.size w5 w6 := hw6 ▸ bstep (below_alloc _ _) (below_alloc _ _)
      have X6 : Hid (Rw.Cel w6 gx [.int .i64 DC, .slice A3 n3 c3]) := hw6 ▸ hgx ▸ (Rw.Cel.new w5 [_, _] _).alloc _
      have T6 : Hid (Rw.Cel w6 (gx + 1) [.slice A4 n4 c4]) := hw6 ▸ hgx ▸ Rw.Cel.new_at _ [_] _ (by simp)
      have F6 := Lib.hid (F5.out.on b6)
      have R6 := Lib.hid (R5.out.on b6)
      have S6 := Lib.hid (S5.out.on b6)
      have B6 := Lib.hid (bstep B5.out b6)
      have HB6 := Lib.hid b6
      have GX : Hid (w.heap.size + 3 < gx) := Lib.hid (by have := S5.out.lt; omega)
      rw [hgx, hw6]
      clear hw6 hgx b6
      by_cases hz : D = 0
      rotate_left
      · obtain ⟨z1, z2⟩ := ne_zero hz
        obtain rfl : G = D := by rw [← HE.out.2.2.2, ← HE.out.2.2.1]; exact poE_dr HE.out.1 HE.out.2.1 HLM.out (by rw [HE.out.2.2.1]; exact hz)
        obtain ⟨f1, f2, f3, f4⟩ := NO.out hz
        subst f1; subst f2; subst f3; subst f4
        obtain ⟨u0, u1⟩ := R6.out.two
        obtain ⟨v0, v1⟩ := R6.out.warm2
        obtain ⟨u2, u3⟩ := S6.out.two
        obtain ⟨v2, v3⟩ := S6.out.warm2
        go_wp2_with fail
        exact bodyPost_ret (res_tanks Tryz.results25 rfl rfl (far2 (R6.out.put2 _ _) (by omega) _ _) ((far2 S6.out (by omega) _ _).put2 _ _)) rfl (PoR.none_ (Rw.below_put2 (Rw.below_put2 B6.out (by omega) _ _) (by omega) _ _))
      obtain ⟨fx, fy⟩ := DFIT.out hz
      obtain ⟨f1, f2, f3⟩ := DYES.out hz
      subst f1; subst f2; subst f3; subst hz
      have FX := Lib.hid fx
      have FY := Lib.hid fy
      clear fx fy
      have HOK := Lib.hid (ckT_of HE.out.2.1)
      have HML : Hid (∀ t ∈ M, vT t = true) := fun t ht => (HOK.out.all t ht).1
      have A6 := Lib.hid (Rats.on HR4.out.1 HB6.out)
      have BM6 := Lib.hid (Rats.on HB.out B6.out)
      have hl0 : 0 < M.length := by have := HOK.out.n0; omega
      have KF := Lib.hid (p_filled (w := w6) (amt_pour (Q := drX L mass) HR4.out.2.1 FX.out (Rats.lt A6.out (by rw [ts_len, drX_len, HLM.out]; exact hl0)) T6.out.lt) ⟨A6.out, T6.out⟩ M (by rw [qs_len, drX_len]; exact HLM.out.symm) FX.out HML.out cb B n c' HN.out.2 hl0 BM6.out (by have := HOK.out.n1; have := HN.out.2; omega))
      rw [← poE_fl HE.out.1 HE.out.2.1 HLM.out HE.out.2.2.1, HE.out.2.2.2] at KF
      obtain ⟨Y, hY⟩ : ∃ Y, poV (qs M) (drX L mass) = Y := ⟨_, rfl⟩
      rw [hY] at KF
      have HY := Lib.hid hY
      clear hl0 hY
      obtain ⟨y0, y1⟩ := F6.out.two
      go_wp2_with fail
      refine KF.out.mono ?_
      rintro e w7 ⟨x, A5, n5, c5, rfl, hb, hno, hyes⟩
      have X7 := Lib.hid (X6.out.on hb)
      have R7 := Lib.hid (R6.out.on hb)
      have S7 := Lib.hid (S6.out.on hb)
      have B7 := Lib.hid (bstep B6.out hb)
      have L7 := Lib.hid (Rats.on HR3.out.1 (bstep HB6.out hb))
      have YS := Lib.hid hyes
      clear hb hno hyes y0 y1
      go_upto_region 14 with fail
      obtain ⟨w8, hw8⟩ : ∃ W, w7.alloc (.cells #[.int .i64 x, .slice A5 n5 c5] 24) = W := ⟨_, rfl⟩
      obtain ⟨gy, hgy⟩ : ∃ g, w7.heap.size = g := ⟨_, rfl⟩
      have b8 : Below w7.heap.size w7 w8 := hw8 ▸ below_alloc _ _
      have Y8 : Hid (Rw.Cel w8 gy [.int .i64 x, .slice A5 n5 c5]) := hw8 ▸ hgy ▸ Rw.Cel.new w7 [_, _] _
      have X8 := Lib.hid (X7.out.on b8)
      have R8 := Lib.hid (R7.out.on b8)
      have S8 := Lib.hid (S7.out.on b8)
      have B8 := Lib.hid (bstep B7.out b8)
      have L8 := Lib.hid (Rats.on L7.out b8)
      have HB8 := Lib.hid b8
      have GY : Hid (gx < gy) := Lib.hid (by have := X7.out.lt; omega)
      rw [hgy, hw8]
      clear hw8 hgy b8
      by_cases hz : G = 0
      rotate_left
      · obtain ⟨z1, z2⟩ := ne_zero hz
        obtain ⟨f1, f2, f3, f4⟩ := NO.out hz
        subst f1; subst f2; subst f3; subst f4
        obtain ⟨u0, u1⟩ := R8.out.two
        obtain ⟨v0, v1⟩ := R8.out.warm2
        obtain ⟨u2, u3⟩ := S8.out.two
        obtain ⟨v2, v3⟩ := S8.out.warm2
        go_wp2_with fail
        exact bodyPost_ret (res_tanks Tryz.results25 rfl rfl (far2 (R8.out.put2 _ _) (by omega) _ _) ((far2 S8.out (by omega) _ _).put2 _ _)) rfl (PoR.none_ (Rw.below_put2 (Rw.below_put2 B8.out (by omega) _ _) (by omega) _ _))
      obtain ⟨f1, f2, f3, f4⟩ := YES.out hz
      obtain ⟨hT, hfy⟩ := YS.out hz
      rw [← HY.out] at hT hfy
      subst f1; subst f2; subst f3; subst f4; subst hz
      have hX8 : InT w8 (.agg #[.int .i64 GA, .slice A3 n3 c3]) GA (ts (drY L mass)) := ⟨A3, c3, by rw [HR3.out.2.1], HR3.out.2.2, L8.out⟩
      have hT8 := InT.on hT HB8.out
      have S9 := Lib.hid (far2 S8.out (k := w.heap.size + 2) (by omega) (.int .i64 GA) (.slice A3 n3 c3))
      have FX9 := Lib.hid (InT.tank (InT.tank hX8 (ts_vZ FY.out) R8.out (.int .i64 GA) (.slice A3 n3 c3)) (ts_vZ FY.out) S9.out (.int .i64 x) (.slice A5 n5 c5))
      have FY9 := Lib.hid (InT.tank (InT.tank hT8 (ts_vZ hfy) R8.out (.int .i64 GA) (.slice A3 n3 c3)) (ts_vZ hfy) S9.out (.int .i64 x) (.slice A5 n5 c5))
      clear hX8 hT8 hT hfy
      obtain ⟨u0, u1⟩ := R8.out.two
      obtain ⟨v0, v1⟩ := R8.out.warm2
      obtain ⟨u2, u3⟩ := S8.out.two
      obtain ⟨v2, v3⟩ := S8.out.warm2
      obtain ⟨x0, x1⟩ := X8.out.two
      obtain ⟨y0, y1⟩ := Y8.out.two
      have l1 : w.heap.size + 1 + 1 < gx := by have := GX.out; omega
      have l2 : w.heap.size + 1 + 1 + 1 < gx := by have := GX.out; omega
      have l3 : w.heap.size + 1 + 1 < gy := by have := GX.out; have := GY.out; omega
      have l4 : w.heap.size + 1 + 1 + 1 < gy := by have := GX.out; have := GY.out; omega
      obtain ⟨k0, k1⟩ := (far2 (k := w.heap.size + 1 + 1) Y8.out (by omega) (.int .i64 GA) (.slice A3 n3 c3)).two
      obtain ⟨j0, j1⟩ := (far2 (k := w.heap.size + 1 + 1 + 1) X8.out (by omega) (.int .i64 x) (.slice A5 n5 c5)).two
      go_upto_region 16 with fail
      go_region
      all_goals
        go_wp2_with fail
        have RF := R8.out.put2 (.int .i64 GA) (.slice A3 n3 c3)
        have SF := S9.out.put2 (.int .i64 x) (.slice A5 n5 c5)
        have RG := far2 RF (k := w.heap.size + 3) (by omega) (.int .i64 x) (.slice A5 n5 c5)
        have BF := Rw.below_put2 (Rw.below_put2 B8.out (show w.heap.size ≤ w.heap.size + 2 by omega) (.int .i64 GA) (.slice A3 n3 c3)) (show w.heap.size ≤ w.heap.size + 3 by omega) (.int .i64 x) (.slice A5 n5 c5)
        exact bodyPost_ret (res_tanks Tryz.results25 rfl rfl RG.drew SF.drew) rfl ⟨_, _, rfl, FX9.out, FY9.out, below_drew BF⟩
end Go.Proofs.YtgmlccjjhmhgbaaGreat.Tank
/- Part of the reference. -/
namespace Go.Proofs.YtgmlccjjhmhgbaaGreat.Tank
open Go.ChangeShapes Go.WideShapes Go.RowKit Go.Lib
open Go.Proofs.YtgmlccjjhmhgbaaGreat.Rw (glt get_lt below_alloc bstep wrap_id below_drewN below_drew drew_below)
set_option linter.unusedVariables false
set_option maxRecDepth 100000

theorem paE_ck {cap : Int} {L : List Trip} {kind : Int} (h : ¬ ckT cap L = 0) : paE cap L kind = ckT cap L := if_neg h
theorem paE_in {cap : Int} {L : List Trip} {kind : Int} (h : ckT cap L = 0) : paE cap L kind = paM L kind := if_pos h
theorem isR_len {w : World} {b : Bool} {A B : Option Addr} {n c m d : Nat} {r : Rat} (h : IsR w (.agg #[.bool b, .slice A n c, .slice B m d]) r) : n = (topL r).length := by
  obtain ⟨-, h1, -⟩ := IsR.cells h
  obtain ⟨A', c', e, -⟩ := in_open h1
  exact (Value.slice.inj e).2.1
set_option maxHeartbeats 3200000 in
theorem tk_Part (cap : Int) (L : List Trip) (A : Option Addr) (n c : Nat) (hn : n = L.length) (kind : Int) (w : World) (ha : Rats w A L) (hm : n ≤ 9223372036854775807) :
    Calls Tryz.prog 28 #[.agg #[.int .i64 cap, .slice A n c], .int .i64 kind] w (RRes w (paE cap L kind) (paV L kind)) := by
  have HA := Lib.hid ha
  have KL := Lib.hid fun (W : World) (h : Rats W A L) => tk_Level cap L A n c hn W h hm
  obtain ⟨E, hE⟩ : ∃ E, ckT cap L = E := ⟨_, rfl⟩
  obtain ⟨V, hV⟩ : ∃ V, sumV L = V := ⟨_, rfl⟩
  obtain ⟨G, hG⟩ : ∃ G, paE cap L kind = G := ⟨_, rfl⟩
  obtain ⟨X, hX⟩ : ∃ X, paV L kind = X := ⟨_, rfl⟩
  rw [hE, hV] at KL
  rw [hG, hX]
  have HE := Lib.hid (And.intro hE (And.intro hV (And.intro hG hX)))
  have HN := Lib.hid hn
  clear ha hn hE hV hG hX
  go_enter Tryz.func28, Tryz.ntmps28
  go_upto_region 1 with fail
  obtain ⟨w0, hw0⟩ : ∃ W, (w.alloc (.cells #[.int .i64 cap, .slice A n c] 24)).alloc (.cells #[.bool false, .slice none 0 0, .slice none 0 0] 33) = W := ⟨_, rfl⟩
  have C0 : Hid (Rw.Cel w0 w.heap.size [.int .i64 cap, .slice A n c]) := hw0 ▸ (Rw.Cel.new w [_, _] _).alloc _
  have R0 : Hid (Rw.Cel w0 (w.heap.size + 1) [.bool false, .slice none 0 0, .slice none 0 0]) := hw0 ▸ Rw.Cel.new_at _ [_, _, _] _ (by simp)
  have B0 : Hid (Below w.heap.size w w0) := hw0 ▸ bstep (below_alloc _ _) (below_alloc _ _)
  first | rw [hw0] | skip
  clear hw0
  obtain ⟨x0, x1⟩ := C0.out.two
  go_wp2_with fail
  refine (KL.out w0 (HA.out.on B0.out)).mono ?_
  rintro e w1 h
  obtain ⟨b4, A4, n4, c4, B4, m4, d4, rfl, ho, hb⟩ := h.open_
  have B1 := Lib.hid (bstep B0.out hb)
  have C1 := Lib.hid (C0.out.on hb)
  have R1 := Lib.hid (R0.out.on hb)
  have O1 := Lib.hid ho
  clear h ho hb x0 x1
  go_upto_region 2 with fail
  obtain ⟨w2, hw2⟩ : ∃ W, w1.alloc (.cells #[.bool b4, .slice A4 n4 c4, .slice B4 m4 d4] 33) = W := ⟨_, rfl⟩
  obtain ⟨g, hg⟩ : ∃ g, w1.heap.size = g := ⟨_, rfl⟩
  have hb2 : Below w1.heap.size w1 w2 := hw2 ▸ below_alloc _ _
  have X2 : Hid (Rw.Cel w2 g [.bool b4, .slice A4 n4 c4, .slice B4 m4 d4]) := hw2 ▸ hg ▸ Rw.Cel.new w1 [_, _, _] _
  have B2 := Lib.hid (bstep B1.out hb2)
  have C2 := Lib.hid (C1.out.on hb2)
  have R2 := Lib.hid (R1.out.on hb2)
  have O2 := Lib.hid (O1.out.on hb2)
  rw [hw2, hg]
  clear hw2 hb2 hg
  obtain ⟨u0, u1, u2⟩ := R2.out.three
  obtain ⟨t0, t1, t2⟩ := R2.out.warm3
  by_cases hz : E = 0
  rotate_left
  · obtain ⟨z1, z2⟩ := ne_zero hz
    obtain rfl : G = E := by rw [← HE.out.2.2.1, ← HE.out.1]; exact paE_ck (by rw [HE.out.1]; exact hz)
    go_wp2_with fail
    exact bodyPost_ret (res_rat2 Tryz.results28 rfl (R2.out.put3 _ _ _)) rfl ⟨_, rfl, OutR.no hz, Rw.below_put3 B2.out (Nat.le_succ _) _ _ _⟩
  subst hz
  have hG := HE.out.2.2.1
  rw [paE_in HE.out.1] at hG
  unfold paM at hG
  rw [HE.out.2.1, ← HN.out] at hG
  have O3 := Lib.hid (O2.out.zero rfl)
  have hn4 := isR_len O3.out
  obtain ⟨x0, x1⟩ := C2.out.two
  obtain ⟨y0, y1, y2⟩ := X2.out.three
  by_cases h0 : kind < 0
  · have d0 : decide (kind < 0) = true := decide_eq_true h0
    obtain rfl : G = 7 := by rw [← hG]; exact if_neg (by omega)
    clear hG hn4 h0
    go_wp2_with fail
    exact bodyPost_ret (res_rat2 Tryz.results28 rfl (R2.out.put3 _ _ _)) rfl ⟨_, rfl, OutR.no (by decide), Rw.below_put3 B2.out (Nat.le_succ _) _ _ _⟩
  have d0 : decide (kind < 0) = false := decide_eq_false h0
  by_cases h1 : (n : Int) ≤ kind
  · have d1 : decide ((n : Int) ≤ kind) = true := decide_eq_true h1
    obtain rfl : G = 7 := by rw [← hG]; exact if_neg (by omega)
    clear hG hn4 h0 h1
    go_wp2_with fail
    exact bodyPost_ret (res_rat2 Tryz.results28 rfl (R2.out.put3 _ _ _)) rfl ⟨_, rfl, OutR.no (by decide), Rw.below_put3 B2.out (Nat.le_succ _) _ _ _⟩
  have d1 : decide ((n : Int) ≤ kind) = false := decide_eq_false h1
  rw [if_pos (by omega)] at hG
  by_cases hv : V.num = 0
  · have hl : n4 = 0 := by
      rw [hn4]
      have := top_emp V
      rw [decide_eq_true hv, List.isEmpty_iff] at this
      rw [this]; rfl
    have z1 : ((n4 : Int) == 0) = true := by rw [hl]; rfl
    obtain rfl : G = 10 := by rw [← hG]; exact if_pos hv
    clear hG hn4 h0 h1 hv hl
    go_wp2_with fail
    exact bodyPost_ret (res_rat2 Tryz.results28 rfl (R2.out.put3 _ _ _)) rfl ⟨_, rfl, OutR.no (by decide), Rw.below_put3 B2.out (Nat.le_succ _) _ _ _⟩
  rw [if_neg hv] at hG
  have z1 : ((n4 : Int) == 0) = false := by
    refine beq_false_of_ne fun e => ?_
    have h4 : n4 = 0 := by omega
    have h5 := top_emp V
    rw [decide_eq_false hv] at h5
    rw [hn4] at h4
    rw [List.eq_nil_of_length_eq_zero h4] at h5
    cases h5
  obtain ⟨K, hK⟩ : ∃ K : Nat, kind = (K : Int) := ⟨kind.toNat, by omega⟩
  subst hK
  obtain ⟨t, ht⟩ := get_lt (L := L) (k := K) (by have := HN.out; omega)
  have hok := ckT_of HE.out.1
  have VT := Lib.hid (hok.all t (List.mem_of_getElem? ht)).1
  have FV := Lib.hid (show fitR V = true by rw [← HE.out.2.1]; exact sumE_fit hok.sum)
  have hq : (qs L).getD K 0 = rT t := by rw [List.getD_eq_getElem?_getD, qs_at ht]; rfl
  rw [Int.toNat_natCast, hq] at hG
  have hX := HE.out.2.2.2
  unfold paV at hX
  rw [Int.toNat_natCast, hq, HE.out.2.1] at hX
  have KD := Lib.hid fun a b W h k => x_Div (rT t) V (trip_form VT.out).1 FV.out a b W h k
  rw [hG, hX] at KD
  have i1 : (K : Int) < (n : Int) := by omega
  have i2 : (0 : Int) ≤ (K : Int) := by omega
  obtain ⟨b2, o2, A6, c6, A7, c7, hA0, hb2, k0, k1, k2, hin⟩ := Rats.at_ (HA.out.on B2.out) ht
  subst hA0
  have HI := Lib.hid (trip_is VT.out hin)
  clear hG hX hq hok ht hin hn4 h0 h1 hv
  go_upto_region 8 with fail
  go_region_with ((go_at_call 59; (refine (KD.out _ _ _ ?_ ?_).mono ?_); (exact HI.out.on (drew_below _)); (exact O3.out.on (drew_below _)); rintro e w6 h6; obtain ⟨b6, A8, n8, c8, B8, m8, d8, rfl, ho6, hb6⟩ := h6.open_; have HO6 := Lib.hid ho6; have HB6 := Lib.hid (bstep (drew_below _) hb6); have hr6 := Lib.hid (R2.out.on HB6.out); obtain ⟨s0, s1, s2⟩ := hr6.out.three; obtain ⟨v0, v1, v2⟩ := hr6.out.warm3; clear h6 ho6 hb6))
  all_goals
    go_wp2_with fail
    exact bodyPost_ret (res_rat2 Tryz.results28 rfl (hr6.out.put3 _ _ _)) rfl ⟨_, rfl, OutR.put3 HO6.out (cel_root hr6.out) _ _ _, Rw.below_put3 (bstep B2.out HB6.out) (Nat.le_succ _) _ _ _⟩
end Go.Proofs.YtgmlccjjhmhgbaaGreat.Tank
/- The program: Part (gen17/pk.py out of TankH). -/
namespace Go.Proofs.YtgmlccjjhmhgbaaGreat.Tank
open Go.ChangeShapes Go.WideShapes Go.RowKit Go.Lib
open Go.Proofs.YtgmlccjjhmhgbaaGreat.Rw (glt get_lt below_alloc bstep wrap_id below_drewN below_drew drew_below)
set_option linter.unusedVariables false
set_option maxRecDepth 100000

set_option maxHeartbeats 3200000 in
theorem p_Part (cap : Int) (L : List Trip) (A : Option Addr) (n c : Nat) (hn : n = L.length) (kind : Int) (w : World) (ha : Rats w A L) (hm : n ≤ 9223372036854775807) :
    Calls Tryz.prog 27 #[.agg #[.int .i64 cap, .slice A n c], .int .i64 kind] w (RRes w (paE cap L kind) (paV L kind)) := by
  have HA := Lib.hid ha
  have KL := Lib.hid fun (W : World) (h : Rats W A L) => p_Level cap L A n c hn W h hm
  obtain ⟨E, hE⟩ : ∃ E, ckT cap L = E := ⟨_, rfl⟩
  obtain ⟨V, hV⟩ : ∃ V, sumV L = V := ⟨_, rfl⟩
  obtain ⟨G, hG⟩ : ∃ G, paE cap L kind = G := ⟨_, rfl⟩
  obtain ⟨X, hX⟩ : ∃ X, paV L kind = X := ⟨_, rfl⟩
  rw [hE, hV] at KL
  rw [hG, hX]
  have HE := Lib.hid (And.intro hE (And.intro hV (And.intro hG hX)))
  have HN := Lib.hid hn
  clear ha hn hE hV hG hX
  go_enter Tryz.func27, Tryz.ntmps27
  go_upto_region 1 with fail
  obtain ⟨w0, hw0⟩ : ∃ W, (w.alloc (.cells #[.int .i64 cap, .slice A n c] 24)).alloc (.cells #[.bool false, .slice none 0 0, .slice none 0 0] 33) = W := ⟨_, rfl⟩
  have C0 : Hid (Rw.Cel w0 w.heap.size [.int .i64 cap, .slice A n c]) := hw0 ▸ (Rw.Cel.new w [_, _] _).alloc _
  have R0 : Hid (Rw.Cel w0 (w.heap.size + 1) [.bool false, .slice none 0 0, .slice none 0 0]) := hw0 ▸ Rw.Cel.new_at _ [_, _, _] _ (by simp)
  have B0 : Hid (Below w.heap.size w w0) := hw0 ▸ bstep (below_alloc _ _) (below_alloc _ _)
  first | rw [hw0] | skip
  clear hw0
  obtain ⟨x0, x1⟩ := C0.out.two
  go_wp2_with fail
  refine (KL.out w0 (HA.out.on B0.out)).mono ?_
  rintro e w1 h
  obtain ⟨b4, A4, n4, c4, B4, m4, d4, rfl, ho, hb⟩ := h.open_
  have B1 := Lib.hid (bstep B0.out hb)
  have C1 := Lib.hid (C0.out.on hb)
  have R1 := Lib.hid (R0.out.on hb)
  have O1 := Lib.hid ho
  clear h ho hb x0 x1
  go_upto_region 2 with fail
  obtain ⟨w2, hw2⟩ : ∃ W, w1.alloc (.cells #[.bool b4, .slice A4 n4 c4, .slice B4 m4 d4] 33) = W := ⟨_, rfl⟩
  obtain ⟨g, hg⟩ : ∃ g, w1.heap.size = g := ⟨_, rfl⟩
  have hb2 : Below w1.heap.size w1 w2 := hw2 ▸ below_alloc _ _
  have X2 : Hid (Rw.Cel w2 g [.bool b4, .slice A4 n4 c4, .slice B4 m4 d4]) := hw2 ▸ hg ▸ Rw.Cel.new w1 [_, _, _] _
  have B2 := Lib.hid (bstep B1.out hb2)
  have C2 := Lib.hid (C1.out.on hb2)
  have R2 := Lib.hid (R1.out.on hb2)
  have O2 := Lib.hid (O1.out.on hb2)
  rw [hw2, hg]
  clear hw2 hb2 hg
  obtain ⟨u0, u1, u2⟩ := R2.out.three
  obtain ⟨t0, t1, t2⟩ := R2.out.warm3
  by_cases hz : E = 0
  rotate_left
  · obtain ⟨z1, z2⟩ := ne_zero hz
    obtain rfl : G = E := by rw [← HE.out.2.2.1, ← HE.out.1]; exact paE_ck (by rw [HE.out.1]; exact hz)
    go_wp2_with fail
    exact bodyPost_ret (res_rat2 Tryz.results27 rfl (R2.out.put3 _ _ _)) rfl ⟨_, rfl, OutR.no hz, Rw.below_put3 B2.out (Nat.le_succ _) _ _ _⟩
  subst hz
  have hG := HE.out.2.2.1
  rw [paE_in HE.out.1] at hG
  unfold paM at hG
  rw [HE.out.2.1, ← HN.out] at hG
  have O3 := Lib.hid (O2.out.zero rfl)
  have hn4 := isR_len O3.out
  obtain ⟨x0, x1⟩ := C2.out.two
  obtain ⟨y0, y1, y2⟩ := X2.out.three
  by_cases h0 : kind < 0
  · have d0 : decide (kind < 0) = true := decide_eq_true h0
    obtain rfl : G = 7 := by rw [← hG]; exact if_neg (by omega)
    clear hG hn4 h0
    go_wp2_with fail
    exact bodyPost_ret (res_rat2 Tryz.results27 rfl (R2.out.put3 _ _ _)) rfl ⟨_, rfl, OutR.no (by decide), Rw.below_put3 B2.out (Nat.le_succ _) _ _ _⟩
  have d0 : decide (kind < 0) = false := decide_eq_false h0
  by_cases h1 : (n : Int) ≤ kind
  · have d1 : decide ((n : Int) ≤ kind) = true := decide_eq_true h1
    obtain rfl : G = 7 := by rw [← hG]; exact if_neg (by omega)
    clear hG hn4 h0 h1
    go_wp2_with fail
    exact bodyPost_ret (res_rat2 Tryz.results27 rfl (R2.out.put3 _ _ _)) rfl ⟨_, rfl, OutR.no (by decide), Rw.below_put3 B2.out (Nat.le_succ _) _ _ _⟩
  have d1 : decide ((n : Int) ≤ kind) = false := decide_eq_false h1
  rw [if_pos (by omega)] at hG
  by_cases hv : V.num = 0
  · have hl : n4 = 0 := by
      rw [hn4]
      have := top_emp V
      rw [decide_eq_true hv, List.isEmpty_iff] at this
      rw [this]; rfl
    have z1 : ((n4 : Int) == 0) = true := by rw [hl]; rfl
    obtain rfl : G = 10 := by rw [← hG]; exact if_pos hv
    clear hG hn4 h0 h1 hv hl
    go_wp2_with fail
    exact bodyPost_ret (res_rat2 Tryz.results27 rfl (R2.out.put3 _ _ _)) rfl ⟨_, rfl, OutR.no (by decide), Rw.below_put3 B2.out (Nat.le_succ _) _ _ _⟩
  rw [if_neg hv] at hG
  have z1 : ((n4 : Int) == 0) = false := by
    refine beq_false_of_ne fun e => ?_
    have h4 : n4 = 0 := by omega
    have h5 := top_emp V
    rw [decide_eq_false hv] at h5
    rw [hn4] at h4
    rw [List.eq_nil_of_length_eq_zero h4] at h5
    cases h5
  obtain ⟨K, hK⟩ : ∃ K : Nat, kind = (K : Int) := ⟨kind.toNat, by omega⟩
  subst hK
  obtain ⟨t, ht⟩ := get_lt (L := L) (k := K) (by have := HN.out; omega)
  have hok := ckT_of HE.out.1
  have VT := Lib.hid (hok.all t (List.mem_of_getElem? ht)).1
  have FV := Lib.hid (show fitR V = true by rw [← HE.out.2.1]; exact sumE_fit hok.sum)
  have hq : (qs L).getD K 0 = rT t := by rw [List.getD_eq_getElem?_getD, qs_at ht]; rfl
  rw [Int.toNat_natCast, hq] at hG
  have hX := HE.out.2.2.2
  unfold paV at hX
  rw [Int.toNat_natCast, hq, HE.out.2.1] at hX
  have KD := Lib.hid fun a b W h k => yq_Div (rT t) V (trip_form VT.out).1 FV.out a b W h k
  rw [hG, hX] at KD
  have i1 : (K : Int) < (n : Int) := by omega
  have i2 : (0 : Int) ≤ (K : Int) := by omega
  obtain ⟨b2, o2, A6, c6, A7, c7, hA0, hb2, k0, k1, k2, hin⟩ := Rats.at_ (HA.out.on B2.out) ht
  subst hA0
  have HI := Lib.hid (trip_is VT.out hin)
  clear hG hX hq hok ht hin hn4 h0 h1 hv
  go_upto_region 8 with fail
  go_region_with ((go_at_call 58; (refine (KD.out _ _ _ ?_ ?_).mono ?_); (exact HI.out.on (drew_below _)); (exact O3.out.on (drew_below _)); rintro e w6 h6; obtain ⟨b6, A8, n8, c8, B8, m8, d8, rfl, ho6, hb6⟩ := h6.open_; have HO6 := Lib.hid ho6; have HB6 := Lib.hid (bstep (drew_below _) hb6); have hr6 := Lib.hid (R2.out.on HB6.out); obtain ⟨s0, s1, s2⟩ := hr6.out.three; obtain ⟨v0, v1, v2⟩ := hr6.out.warm3; clear h6 ho6 hb6))
  all_goals
    go_wp2_with fail
    exact bodyPost_ret (res_rat2 Tryz.results27 rfl (hr6.out.put3 _ _ _)) rfl ⟨_, rfl, OutR.put3 HO6.out (cel_root hr6.out) _ _ _, Rw.below_put3 (bstep B2.out HB6.out) (Nat.le_succ _) _ _ _⟩
end Go.Proofs.YtgmlccjjhmhgbaaGreat.Tank
/- What the laws of the stage lean on: light, rats, same, valid, whole. -/
namespace Go.Proofs.YtgmlccjjhmhgbaaGreat.Tank
open Go.ChangeShapes Go.WideShapes Go.RowKit Go.Lib
open Go.Proofs.YtgmlccjjhmhgbaaGreat.Rw (glt get_lt below_alloc bstep wrap_id below_drewN below_drew drew_below)
set_option linter.unusedVariables false
set_option maxRecDepth 100000

/-- Not many more parts than there may be, of few limbs. -/
def lightB (L : List Trip) : Bool := decide (L.length ≤ 20) && L.all fun t => decide (t.2.1.length ≤ 5) && decide (t.2.2.length ≤ 5)
set_option maxHeartbeats 1600000 in
theorem law_light (cap : Int) (L : List Trip) (A : Option Addr) (n c : Nat) (hn : n = L.length) (w : World) (ha : Rats w A L) (hm : n ≤ 9223372036854775807) :
    Calls Tryz.prog 10 #[.agg #[.int .i64 cap, .slice A n c]] w fun e w' => e = .returned (.bool (lightB L)) ∧ Below w.heap.size w w' := by
  have HA := Lib.hid ha
  have HN := Lib.hid hn
  obtain ⟨M, hM⟩ : ∃ M, lightB L = M := ⟨_, rfl⟩
  rw [hM]
  have HM := Lib.hid hM
  clear ha
  by_cases h : 20 < n
  · have h1 : decide ((20 : Int) < (n : Int)) = true := decide_eq_true (by omega)
    obtain rfl : M = false := by rw [← hM]; unfold lightB; rw [decide_eq_false (by omega)]; rfl
    clear h hn hM
    go_enter Tryz.func10, Tryz.ntmps10
    go_wp2_with fail
    go_ret
    exact ⟨rfl, below_alloc _ _⟩
  have h1 : decide ((20 : Int) < (n : Int)) = false := decide_eq_false (by omega)
  have H0 := Lib.hid (show L.length ≤ 20 by omega)
  clear h hn hM
  go_enter Tryz.func10, Tryz.ntmps10
  go_upto_region 1 with fail
  obtain ⟨w0, hw0⟩ : ∃ W, w.alloc (.cells #[.int .i64 cap, .slice A n c] 24) = W := ⟨_, rfl⟩
  have C0 : Hid (Rw.Cel w0 w.heap.size [.int .i64 cap, .slice A n c]) := hw0 ▸ Rw.Cel.new w [_, _] _
  have B0 : Hid (Below w.heap.size w w0) := hw0 ▸ below_alloc _ _
  rw [hw0]
  clear hw0
  obtain ⟨x0, x1⟩ := C0.out.two
  go_wp2_with fail
  go_loopw [3] (fun i wr => ∃ k : Nat, k ≤ n ∧ i = .int .i64 k ∧ (∀ (j : Nat) (t : Trip), j < k → L[j]? = some t → t.2.1.length ≤ 5 ∧ t.2.2.length ≤ 5) ∧ Below w0.heap.size w0 wr) (fun i _ => n - (RowKit.intOf i).toNat)
  case atStart => exact ⟨0, Nat.zero_le _, rfl, fun j t h => absurd h (by omega), Below.refl _ _⟩
  case round =>
    obtain ⟨k, hk, rfl, hv, hbel⟩ := hrel
    have HV := Lib.hid hv
    have HW := Lib.hid hbel
    have BW := Lib.hid (bstep B0.out hbel)
    clear hv hbel x0 x1
    obtain ⟨x0, x1⟩ := (C0.out.on HW.out).two
    rcases Nat.lt_or_ge k n with hlt | hge
    · obtain ⟨t, ht⟩ := get_lt (L := L) (k := k) (by have := HN.out; omega)
      obtain ⟨b, off, A1, c1, A2, c2, rfl, hb, y0, y1, y2, -⟩ := Rats.at_ (HA.out.on BW.out) ht
      have HT := Lib.hid ht
      have i1 : (k : Int) < (n : Int) := by omega
      have i2 : (0 : Int) ≤ (k : Int) := by omega
      obtain ⟨p, hp⟩ : ∃ p, t.2.1.length = p := ⟨_, rfl⟩
      obtain ⟨q, hq⟩ : ∃ q, t.2.2.length = q := ⟨_, rfl⟩
      rw [hp] at y1
      rw [hq] at y2
      have HPQ := Lib.hid (And.intro hp hq)
      have hbad : ¬ (p ≤ 5 ∧ q ≤ 5) → lightB L = false := fun h => by
        unfold lightB
        rw [Bool.and_eq_false_iff]
        refine Or.inr (List.all_eq_false.mpr ⟨t, List.mem_of_getElem? ht, ?_⟩)
        rw [hp, hq]
        simp only [Bool.and_eq_true, decide_eq_true_iff]
        exact h
      have HBad := Lib.hid hbad
      clear ht hp hq hbad
      by_cases hg : 5 < p
      · have t0 : decide ((5 : Int) < (p : Int)) = true := decide_eq_true (by omega)
        obtain rfl : M = false := by rw [← HM.out]; exact HBad.out (by omega)
        clear hg
        go_wp2_with fail
        go_ret
        exact ⟨rfl, BW.out⟩
      have t0 : decide ((5 : Int) < (p : Int)) = false := decide_eq_false (by omega)
      by_cases hg2 : 5 < q
      · have t1 : decide ((5 : Int) < (q : Int)) = true := decide_eq_true (by omega)
        obtain rfl : M = false := by rw [← HM.out]; exact HBad.out (by omega)
        clear hg hg2
        go_wp2_with fail
        go_ret
        exact ⟨rfl, BW.out⟩
      have t1 : decide ((5 : Int) < (q : Int)) = false := decide_eq_false (by omega)
      have HG := Lib.hid (show t.2.1.length ≤ 5 ∧ t.2.2.length ≤ 5 by rw [HPQ.out.1, HPQ.out.2]; omega)
      clear hg hg2
      go_wp2_with fail
      go_roundw
      case rel =>
        refine ⟨k + 1, by omega, by go_num, ?_, HW.out⟩
        intro j u hj hu
        rcases Nat.lt_or_eq_of_le (Nat.le_of_lt_succ hj) with h | h
        · exact HV.out j u h hu
        · subst h
          have e := HT.out
          rw [hu] at e; cases e; exact HG.out
      case measure => simp [RowKit.intOf]; omega
    · obtain rfl : k = n := by omega
      obtain rfl : M = true := by
        rw [← HM.out]; unfold lightB
        rw [decide_eq_true H0.out, Bool.true_and]
        refine List.all_eq_true.mpr fun t ht => ?_
        obtain ⟨j, hj⟩ := List.mem_iff_getElem?.mp ht
        have := HV.out j t (by rw [HN.out]; exact glt hj) hj
        simp only [Bool.and_eq_true, decide_eq_true_iff]
        exact this
      go_wp2_with fail
      go_ret
      exact ⟨rfl, BW.out⟩
set_option maxHeartbeats 1600000 in
theorem law_valid (L : List Trip) (A : Option Addr) (n c : Nat) (hn : n = L.length) (w : World) (ha : Rats w A L) (hm : n ≤ 9223372036854775807) :
    Calls Tryz.prog 30 #[.slice A n c] w fun e w' => e = .returned (.bool (L.all vT)) ∧ Below w.heap.size w w' := by
  have HA := Lib.hid ha
  have HN := Lib.hid hn
  obtain ⟨M, hM⟩ : ∃ M, L.all vT = M := ⟨_, rfl⟩
  rw [hM]
  have HM := Lib.hid hM
  clear ha hn hM
  go_enter Tryz.func30, Tryz.ntmps30
  go_wp2_with fail
  go_loopw [3] (fun i wr => ∃ k : Nat, k ≤ n ∧ i = .int .i64 k ∧ (∀ (j : Nat) (t : Trip), j < k → L[j]? = some t → vT t = true) ∧ Below w.heap.size w wr) (fun i _ => n - (RowKit.intOf i).toNat)
  case atStart => exact ⟨0, Nat.zero_le _, rfl, fun j t h => absurd h (by omega), Below.refl _ _⟩
  case round =>
    obtain ⟨k, hk, rfl, hv, hbel⟩ := hrel
    have HV := Lib.hid hv
    have BW := Lib.hid hbel
    clear hv hbel
    rcases Nat.lt_or_ge k n with hlt | hge
    · obtain ⟨t, ht⟩ := get_lt (L := L) (k := k) (by have := HN.out; omega)
      obtain ⟨b, off, A1, c1, A2, c2, rfl, hb, y0, y1, y2, hin⟩ := Rats.at_ (HA.out.on BW.out) ht
      have HT := Lib.hid ht
      have i1 : (k : Int) < (n : Int) := by omega
      have i2 : (0 : Int) ≤ (k : Int) := by omega
      have KV := Lib.hid (ref_Valid3 _ _ _ _ wr hin)
      obtain ⟨p, hp⟩ : ∃ p, vT t = p := ⟨_, rfl⟩
      have hp2 : valR t.1 t.2.1 t.2.2 = p := hp
      rw [hp2] at KV
      have HP := Lib.hid hp
      clear ht hin hp hp2
      go_wp2_with fail
      refine KV.out.mono ?_
      rintro e w1 ⟨rfl, hb1⟩
      have B1 := Lib.hid hb1
      clear hb1 y0 y1 y2
      cases p with
      | false =>
        obtain rfl : M = false := by rw [← HM.out]; exact all_false HT.out HP.out
        go_wp2_with fail
        go_ret
        exact ⟨rfl, bstep BW.out B1.out⟩
      | true =>
        go_wp2_with fail
        go_roundw
        case rel =>
          refine ⟨k + 1, by omega, by go_num, ?_, bstep BW.out B1.out⟩
          intro j u hj hu
          rcases Nat.lt_or_eq_of_le (Nat.le_of_lt_succ hj) with h | h
          · exact HV.out j u h hu
          · subst h
            have e := HT.out
            rw [hu] at e; cases e; exact HP.out
        case measure => simp [RowKit.intOf]; omega
    · obtain rfl : k = n := by omega
      obtain rfl : M = true := by rw [← HM.out]; exact all_true fun j t hj => HV.out j t (by rw [HN.out]; exact glt hj) hj
      go_wp2_with fail
      go_ret
      exact ⟨rfl, BW.out⟩
end Go.Proofs.YtgmlccjjhmhgbaaGreat.Tank
