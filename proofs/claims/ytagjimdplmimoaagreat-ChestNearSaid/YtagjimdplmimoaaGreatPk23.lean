/- Several texts in one: TankPE, TankPF, TankPG, TankPH. -/
import Derived.Test.YtagjimdplmimoaaGreatPk22
/- The program: filled, Fill. -/
namespace Go.Proofs.YtagjimdplmimoaaGreat.Tank
open Go.ChangeShapes Go.WideShapes Go.RowKit Go.Lib
open Go.Proofs.YtagjimdplmimoaaGreat.Mem (Cl eI Own)
open Go.Proofs.YtagjimdplmimoaaGreat.Rw (Rd Row Kd Off glt get_lt below_alloc bstep wrap_id below_drewN below_drew drew_below take_snoc_of)
set_option linter.unusedVariables false
set_option maxRecDepth 100000

/-- What filled leaves. -/
def FlR (w : World) (E cap : Int) (V : List Rat) (e : Ending) (w' : World) : Prop :=
  ∃ x A n c, e = .returned (.tuple #[.agg #[.int .i64 x, .slice A n c], .int .i64 E]) ∧ Below w.heap.size w w' ∧ (¬ E = 0 → x = 0 ∧ A = none ∧ n = 0 ∧ c = 0) ∧ (E = 0 → InT w' (.agg #[.int .i64 x, .slice A n c]) cap (ts V) ∧ ∀ q ∈ V, fitR q = true)
def flE (cap : Int) (P Q : List Rat) : Int := if poB P Q then ckT cap (ts (poV P Q)) else 2
theorem getD_at {P : List Rat} {k : Nat} {q : Rat} (h : P[k]? = some q) : P.getD k 0 = q := by rw [List.getD_eq_getElem?_getD, h]; rfl
/-- The error of a sum of two parts. -/
def erP (P Q : List Rat) (k : Nat) : Int := okE (sumOk (P.getD k 0) (Q.getD k 0))
theorem erP_at {P Q : List Rat} {k : Nat} {q x : Rat} (hq : P[k]? = some q) (hx : Q[k]? = some x) : erP P Q k = okE (sumOk q x) := by unfold erP; rw [getD_at hq, getD_at hx]
theorem fE_po {P Q : List Rat} (h : P.length = Q.length) : fE (erP P Q) P.length = okE (poB P Q) := by
  rcases fE_spec (erP P Q) P.length with ⟨h1, h2⟩ | ⟨k, h1, h2, h3, -⟩
  · rw [h1]
    have : poB P Q = true := poB_ok fun k q x hq hx => by
      have := h2 k (glt hq)
      rw [erP_at hq hx] at this
      exact okE_zero.mp this
    rw [this]; rfl
  · rw [h3]
    obtain ⟨q, hq⟩ := get_lt h1
    obtain ⟨x, hx⟩ := get_lt (L := Q) (k := k) (by omega)
    rw [erP_at hq hx] at h2 ⊢
    have hs : sumOk q x = false := by
      cases hh : sumOk q x with
      | false => rfl
      | true => exact absurd (okE_zero.mpr hh) h2
    rw [hs, poB_bad hq hx hs]
theorem bcm_fill {fn : Nat} {ba ca : Array Value} {Q : List Rat} {B0 B gb : Nat} {I : World → Prop} {A : Option Addr} {L : List Trip} (ham : Amt fn ba ca Q B0 I) (hB : B0 ≤ B) (hg : gb < B) (hA : ∀ b off, A = some ⟨b, off, none⟩ → b < B) (hL : ∀ t ∈ L, vT t = true) (hQ : ∀ q ∈ Q, fitR q = true) :
    Bcm 38 #[] #[.pointer (some ⟨gb, 0, none⟩)] L (poV (qs L) Q) (erP (qs L) Q) B (fun _ => False) A (fun _ W => Rats W A L ∧ I W ∧ W.cell? ⟨gb, 0, none⟩ = some (.func (.func fn) ba ca)) where
  eg := enters_of Tryz.func38 (by kernel_rfl) rfl
  lt := fun y h => h.elim
  rats := fun k W h => h.1
  stab := fun k W W' h hs hb hk => ⟨Rats.kep h.1 hA (fun t ht => Or.inl (hL t ht)) hb hk, ham.stab W W' h.2.1 (Nat.le_trans hB hs) (hb.mono hB) hk, (hb.cell (p := ⟨gb, 0, none⟩) hg).trans h.2.2⟩
  fit := fun k z hz he => by
    obtain ⟨q, x, hq, hx, rfl⟩ := poV_get hz
    rw [erP_at hq hx] at he
    exact fit_sum (qs_fit hL q (List.mem_of_getElem? hq)) (hQ x (List.mem_of_getElem? hx)) (okE_zero.mp he)
  step := fun k t z W v ht hz hs hJ hi => by
    obtain ⟨q, x, hq, hx, rfl⟩ := poV_get hz
    have hv := hL t (List.mem_of_getElem? ht)
    rw [qs_at ht] at hq
    cases hq
    rw [erP_at (qs_at ht) hx]
    have hi2 := trip_isR hv hi
    refine (p_filled1 ham k (rT t) x (trip_form hv).1 (hQ x (List.mem_of_getElem? hx)) hx v W (Nat.le_trans hB hs) hJ.2.1 hi2 gb hJ.2.2).mono fun e w' h => StR.of h fun hb _ => ?_
    exact ⟨Rats.on hJ.1 hb, ham.stab W w' hJ.2.1 (Nat.le_trans hB hs) (hb.mono (Nat.le_trans hB hs)) (Kep.of hb), (hb.cell (p := ⟨gb, 0, none⟩) (World.block_lt_of_cell? W _ hJ.2.2)).trans hJ.2.2⟩
set_option maxHeartbeats 3200000 in
theorem p_filled {fn : Nat} {ba ca : Array Value} {Q : List Rat} {I : World → Prop} {w : World} (ham : Amt fn ba ca Q w.heap.size I) (hI : I w) (L : List Trip) (hQ : (qs L).length = Q.length) (hfq : ∀ q ∈ Q, fitR q = true) (hL : ∀ t ∈ L, vT t = true) (cap : Int) (A : Option Addr) (n c : Nat) (hn : n = L.length) (h0 : 0 < L.length) (ha : Rats w A L) (hm : n ≤ 8) :
    Calls Tryz.prog 25 #[.agg #[.int .i64 cap, .slice A n c], .func (.func fn) ba ca] w (FlR w (flE cap (qs L) Q) cap (poV (qs L) Q)) := by
  have HA := Lib.hid ha
  have HAM := Lib.hid ham
  have HI := Lib.hid hI
  have HN := Lib.hid (And.intro hn (And.intro hQ hm))
  have H0 := Lib.hid h0
  have HL := Lib.hid hL
  have HFQ := Lib.hid hfq
  have hfe : fE (erP (qs L) Q) n = okE (poB (qs L) Q) := by rw [hn, ← qs_len L]; exact fE_po hQ
  obtain ⟨p, hp⟩ : ∃ p, poB (qs L) Q = p := ⟨_, rfl⟩
  have HP := Lib.hid hp
  rw [hp] at hfe
  obtain ⟨E, hE⟩ : ∃ E, flE cap (qs L) Q = E := ⟨_, rfl⟩
  have HE : Hid (E = if p then ckT cap (ts (poV (qs L) Q)) else 2) := Lib.hid (by rw [← hE, ← hp]; rfl)
  have HFE := Lib.hid hfe
  rw [hE]
  obtain ⟨V, hV⟩ : ∃ V, poV (qs L) Q = V := ⟨_, rfl⟩
  have HVV := Lib.hid hV
  rw [hV] at HE ⊢
  clear ha ham hI hn hQ hm hL hfq hfe hp hE hV h0
  go_enter Tryz.func25, Tryz.ntmps25
  go_upto_region 1 with fail
  obtain ⟨w0, hw0⟩ : ∃ W, ((w.alloc (.cells #[.int .i64 cap, .slice A n c] 32)).alloc (.cells #[.func (.func fn) ba ca] 63)).alloc (.cells #[.int .i64 0, .slice none 0 0] 32) = W := ⟨_, rfl⟩
  have C0 : Hid (Rw.Cel w0 w.heap.size [.int .i64 cap, .slice A n c]) := hw0 ▸ ((Rw.Cel.new w [_, _] _).alloc _).alloc _
  have F0 : Hid (Rw.Cel w0 (w.heap.size + 1) [.func (.func fn) ba ca]) := hw0 ▸ (Rw.Cel.new_at _ [_] _ (by simp)).alloc _
  have R0 : Hid (Rw.Cel w0 (w.heap.size + 2) [.int .i64 0, .slice none 0 0]) := hw0 ▸ Rw.Cel.new_at _ [_, _] _ (by simp)
  have B0 : Hid (Below w.heap.size w w0) := hw0 ▸ bstep (bstep (below_alloc _ _) (below_alloc _ _)) (below_alloc _ _)
  first | rw [hw0] | skip
  clear hw0
  have I0 := Lib.hid (HAM.out.stab _ _ HI.out (Nat.le_refl _) B0.out (Kep.of B0.out))
  have A0 := Lib.hid (Rats.on HA.out B0.out)
  have f0 := F0.out.at_ 0 _ rfl
  have HAB := Lib.hid (Rats.lt A0.out H0.out)
  have KC := Lib.hid (p_changed (w := w0) (bcm_fill HAM.out (B := w0.heap.size) (gb := w.heap.size + 1) (A := A) (L := L) B0.out.size F0.out.lt HAB.out HL.out HFQ.out) (by rw [poV_len HN.out.2.1, qs_len]) cap n c HN.out.1 ⟨A0.out, I0.out, f0⟩ HN.out.2.2)
  rw [HFE.out, HVV.out] at KC
  clear f0
  obtain ⟨x0, x1⟩ := C0.out.two
  go_wp2_with fail
  refine KC.out.mono ?_
  rintro e w3 ⟨x, A3, n3, c3, rfl, ho, hs, hno, hyes⟩
  have hb := Off.below ho (Nat.le_refl _) (fun _ h => h.elim)
  have R3 := Lib.hid (R0.out.on hb)
  have B3 := Lib.hid (bstep B0.out hb)
  have NO3 := Lib.hid hno
  have YES3 := Lib.hid hyes
  clear ho hs hno hyes hb x0 x1
  go_upto_region 2 with fail
  obtain ⟨w4, hw4⟩ : ∃ W, w3.alloc (.cells #[.int .i64 x, .slice A3 n3 c3] 32) = W := ⟨_, rfl⟩
  have b4 : Below w3.heap.size w3 w4 := hw4 ▸ below_alloc _ _
  have D4 : Hid (Rw.Cel w4 w3.heap.size [.int .i64 x, .slice A3 n3 c3]) := hw4 ▸ Rw.Cel.new w3 [_, _] _
  have R4 := Lib.hid (R3.out.on b4)
  have B4 := Lib.hid (bstep B3.out b4)
  have L4 := Lib.hid R3.out.lt
  have HB4 := Lib.hid b4
  rw [hw4]
  clear hw4 b4
  cases p with
  | false =>
    obtain rfl : E = 2 := HE.out
    have zz : okE false = 2 := rfl
    rw [zz]
    obtain ⟨u0, u1⟩ := R4.out.two
    obtain ⟨v0, v1⟩ := R4.out.warm2
    go_wp2_with fail
    exact bodyPost_ret (res_tank2 Tryz.results25 rfl (R4.out.put2 _ _)) rfl ⟨0, none, 0, 0, rfl, Rw.below_put2 B4.out (by omega) _ _, fun _ => ⟨rfl, rfl, rfl, rfl⟩, fun h => by cases h⟩
  | true =>
  have zz : okE true = 0 := rfl
  rw [zz]
  obtain ⟨hT, -, hf⟩ := YES3.out rfl
  have HF := Lib.hid hf
  have T4 := Lib.hid (InT.on hT HB4.out)
  clear hT hf
  obtain ⟨A5, c5, e5, hl5, hr5⟩ := T4.out
  have e5' : x = cap ∧ A3 = A5 ∧ n3 = (ts V).length ∧ c3 = c5 := by
    simp only [Value.agg.injEq, Array.mk.injEq, List.cons.injEq, Value.int.injEq, Value.slice.injEq, and_true, true_and] at e5
    exact e5
  obtain ⟨rfl, rfl, hn3, rfl⟩ := e5'
  have K4 := Lib.hid (p_Check x (ts V) A3 n3 c3 hn3 w4 hr5 (by omega))
  have hE := HE.out
  rw [if_pos rfl] at hE
  rw [← hE] at K4
  clear hE e5 hr5 hn3 hl5
  obtain ⟨x0, x1⟩ := D4.out.two
  by_cases hz : E = 0
  · subst hz
    go_wp2_with fail
    refine K4.out.mono ?_
    rintro e w5 ⟨rfl, hb⟩
    have R5 := Lib.hid (R4.out.on hb)
    have B5 := Lib.hid (bstep B4.out hb)
    have D5 := Lib.hid (D4.out.on hb)
    have T5 := Lib.hid (InT.tank (T4.out.on hb) (ts_vZ HF.out) R5.out (.int .i64 x) (.slice A3 n3 c3))
    clear hb x0 x1
    obtain ⟨x0, x1⟩ := D5.out.two
    obtain ⟨u0, u1⟩ := R5.out.two
    obtain ⟨v0, v1⟩ := R5.out.warm2
    go_wp2_with fail
    exact bodyPost_ret (res_tank2 Tryz.results25 rfl (R5.out.put2 _ _)) rfl ⟨x, A3, n3, c3, rfl, Rw.below_put2 B5.out (by omega) _ _, fun h => absurd rfl h, fun _ => ⟨T5.out, HF.out⟩⟩
  · obtain ⟨z1, z2⟩ := ne_zero hz
    go_wp2_with fail
    refine K4.out.mono ?_
    rintro e w5 ⟨rfl, hb⟩
    have R5 := Lib.hid (R4.out.on hb)
    have B5 := Lib.hid (bstep B4.out hb)
    clear hb x0 x1
    obtain ⟨u0, u1⟩ := R5.out.two
    obtain ⟨v0, v1⟩ := R5.out.warm2
    go_wp2_with fail
    exact bodyPost_ret (res_tank2 Tryz.results25 rfl (R5.out.put2 _ _)) rfl ⟨0, none, 0, 0, rfl, Rw.below_put2 B5.out (by omega) _ _, fun _ => ⟨rfl, rfl, rfl, rfl⟩, fun h => absurd h hz⟩
end Go.Proofs.YtagjimdplmimoaaGreat.Tank
/- The program: Fill. -/
namespace Go.Proofs.YtagjimdplmimoaaGreat.Tank
open Go.ChangeShapes Go.WideShapes Go.RowKit Go.Lib
open Go.Proofs.YtagjimdplmimoaaGreat.Mem (Cl eI Own)
open Go.Proofs.YtagjimdplmimoaaGreat.Rw (Rd Row Kd Off glt get_lt below_alloc bstep wrap_id below_drewN below_drew drew_below take_snoc_of)
set_option linter.unusedVariables false
set_option maxRecDepth 100000

theorem cl_kep {w w' : World} {A : Option Addr} {L : List Int} {B : Nat} (h : Cl eI w A L) (hA : ∀ b off, A = some ⟨b, off, none⟩ → b < B) (hb : Below B w w') : Cl eI w' A L := fun k z hz => by
  obtain ⟨b, off, e, hlt, hc⟩ := h k z hz
  exact ⟨b, off, e, Nat.lt_of_lt_of_le hlt hb.size, (hb.cell (p := ⟨b, off + k, none⟩) (hA b off e)).trans hc⟩
theorem cl_lt {w : World} {A : Option Addr} {L : List Int} (h : Cl eI w A L) (h0 : 0 < L.length) : ∀ b off, A = some ⟨b, off, none⟩ → b < w.heap.size := fun b off e => by
  obtain ⟨t, ht⟩ := get_lt h0
  obtain ⟨b', off', e', hlt, -⟩ := h 0 t ht
  rw [e] at e'; cases e'; exact hlt
set_option maxHeartbeats 1600000 in
theorem p_Fill1 (m : List Int) (M : Option Addr) (n c : Nat) (hn : n = m.length) (k : Nat) (z : Int) (hz : m[k]? = some z) (h0 : 0 ≤ z) (h1 : z ≤ 1099511627776) (gm : Nat) (w : World) (hM : Cl eI w M m) (hg : w.cell? ⟨gm, 0, none⟩ = some (.slice M n c)) :
    Calls Tryz.prog 26 #[.int .i64 k, .pointer (some ⟨gm, 0, none⟩)] w fun e W' => ∃ b A n c B' m d, e = .returned (.agg #[.bool b, .slice A n c, .slice B' m d]) ∧ IsR W' (.agg #[.bool b, .slice A n c, .slice B' m d]) (qI z) ∧ Below w.heap.size w W' := by
  have KO := Lib.hid fun W => yq_Of z h0 h1 W
  have hgl := World.block_lt_of_cell? w _ hg
  have i1 : (k : Int) < (n : Int) := by have := glt hz; omega
  have i2 : (0 : Int) ≤ (k : Int) := by omega
  have hM0 := Cl.on hM (below_alloc w (.cells #[.bool false, .slice none 0 0, .slice none 0 0] 46))
  obtain ⟨b, off, rfl, hb, e0⟩ := cl_at hM0 hz
  have HE := Lib.hid e0
  have HG := Lib.hid hg
  have HL := Lib.hid hgl
  clear hz h0 h1 hM hM0 hn e0 hg hgl hb
  go_enter Tryz.func26, Tryz.ntmps26
  go_upto_region 1 with fail
  obtain ⟨w0, hw0⟩ : ∃ W, w.alloc (.cells #[.bool false, .slice none 0 0, .slice none 0 0] 46) = W := ⟨_, rfl⟩
  have R0 : Hid (Rw.Cel w0 w.heap.size [.bool false, .slice none 0 0, .slice none 0 0]) := hw0 ▸ Rw.Cel.new w [_, _, _] _
  have B0 : Hid (Below w.heap.size w w0) := hw0 ▸ below_alloc _ _
  rw [hw0] at HE
  rw [hw0]
  clear hw0
  have x0 := (B0.out.cell (p := ⟨gm, 0, none⟩) HL.out).trans HG.out
  have y0 := HE.out
  go_wp2_with fail
  refine (KO.out w0).mono ?_
  rintro e w1 h
  obtain ⟨b1, A1, n1, c1, B1, m1, d1, rfl, ho, hb⟩ := h.open_
  have O1 := Lib.hid (ho.zero rfl)
  have BB1 := Lib.hid (bstep B0.out hb)
  have R1 := Lib.hid (R0.out.on hb)
  clear h ho hb x0 y0
  go_upto_region 2 with fail
  obtain ⟨w2, hw2⟩ : ∃ W, w1.alloc (.cells #[.bool b1, .slice A1 n1 c1, .slice B1 m1 d1] 46) = W := ⟨_, rfl⟩
  have b2 : Below w1.heap.size w1 w2 := hw2 ▸ below_alloc _ _
  have R2 := Lib.hid (R1.out.on b2)
  have D2 : Hid (Rw.Cel w2 w1.heap.size [.bool b1, .slice A1 n1 c1, .slice B1 m1 d1]) := hw2 ▸ Rw.Cel.new w1 [_, _, _] _
  have B2 := Lib.hid (bstep BB1.out b2)
  have O2 := Lib.hid (O1.out.on b2)
  rw [hw2]
  clear hw2 b2
  obtain ⟨x0, x1, x2⟩ := R2.out.three
  obtain ⟨y0, y1, y2⟩ := R2.out.warm3
  obtain ⟨u0, u1, u2⟩ := D2.out.three
  go_wp2_with fail
  exact bodyPost_ret (res_rat Tryz.results26 rfl (R2.out.put3 _ _ _)) rfl ⟨_, _, _, _, _, _, _, rfl, InR.put3 O2.out (cel_root R2.out) _ _ _, Rw.below_put3 B2.out (Nat.le_refl _) _ _ _⟩
theorem amt_fill {m : List Int} {M : Option Addr} {n c gm B : Nat} (hn : n = m.length) (hm : ∀ z ∈ m, 0 ≤ z ∧ z ≤ MM) (hM : ∀ b off, M = some ⟨b, off, none⟩ → b < B) (hg : gm < B) :
    Amt 26 #[] #[.pointer (some ⟨gm, 0, none⟩)] (qIs m) B (fun W => Cl eI W M m ∧ W.cell? ⟨gm, 0, none⟩ = some (.slice M n c)) where
  eg := enters_of Tryz.func26 (by kernel_rfl) rfl
  stab := fun W W' h hs hb hk => ⟨cl_kep h.1 hM hb, (hb.cell (p := ⟨gm, 0, none⟩) hg).trans h.2⟩
  step := fun k q W hq hs h => by
    unfold qIs at hq
    rw [List.getElem?_map] at hq
    cases hz : m[k]? with
    | none => rw [hz] at hq; cases hq
    | some z =>
      rw [hz] at hq
      cases hq
      have := hm z (List.mem_of_getElem? hz)
      exact p_Fill1 m M n c hn k z hz this.1 this.2 gm W h.1 h.2
theorem filE_fl {cap : Int} {L : List Trip} {m : List Int} (h : ckT cap L = 0) (h2 : parE m (L.length : Int) = 0) : filE cap L m = flE cap (qs L) (qIs m) := by
  unfold filE flE; rw [if_pos h, if_pos h2]; rfl
set_option maxHeartbeats 3200000 in
theorem p_Fill (cap : Int) (L : List Trip) (A : Option Addr) (n c : Nat) (hn : n = L.length) (m : List Int) (M : Option Addr) (n' c' : Nat) (hn' : n' = m.length) (w : World) (ha : Rats w A L) (hb : Cl eI w M m) (hm : n ≤ 9223372036854775807) (hm2 : n' ≤ 9223372036854775807) :
    Calls Tryz.prog 8 #[.agg #[.int .i64 cap, .slice A n c], .slice M n' c'] w (TRes w (filE cap L m) (filC cap L m) (filL cap L m)) := by
  have HA := Lib.hid ha
  have HM := Lib.hid hb
  have KC := Lib.hid fun (W : World) (h : Rats W A L) => p_Check cap L A n c hn W h hm
  have KP := Lib.hid fun (W : World) (h : Cl eI W M m) => q_Parts m M n' c' hn' n W h hm2
  obtain ⟨E, hE⟩ : ∃ E, ckT cap L = E := ⟨_, rfl⟩
  obtain ⟨F, hF⟩ : ∃ F, parE m (n : Int) = F := ⟨_, rfl⟩
  obtain ⟨G, hG⟩ : ∃ G, filE cap L m = G := ⟨_, rfl⟩
  obtain ⟨GC, hGC⟩ : ∃ GC, filC cap L m = GC := ⟨_, rfl⟩
  obtain ⟨GL, hGL⟩ : ∃ GL, filL cap L m = GL := ⟨_, rfl⟩
  rw [hE] at KC
  rw [hF] at KP
  rw [hG, hGC, hGL]
  have HE := Lib.hid hE
  have HF := Lib.hid hF
  have HG := Lib.hid (And.intro hG (And.intro hGC hGL))
  have HN := Lib.hid (And.intro hn hn')
  clear ha hb hE hF hG hGC hGL hn hn' hm hm2
  go_enter Tryz.func8, Tryz.ntmps8
  go_upto_region 1 with fail
  obtain ⟨w0, hw0⟩ : ∃ W, ((w.alloc (.cells #[.int .i64 cap, .slice A n c] 32)).alloc (.cells #[.slice M n' c'] 22)).alloc (.cells #[.int .i64 0, .slice none 0 0] 32) = W := ⟨_, rfl⟩
  have C0 : Hid (Rw.Cel w0 w.heap.size [.int .i64 cap, .slice A n c]) := hw0 ▸ ((Rw.Cel.new w [_, _] _).alloc _).alloc _
  have F0 : Hid (Rw.Cel w0 (w.heap.size + 1) [.slice M n' c']) := hw0 ▸ (Rw.Cel.new_at _ [_] _ (by simp)).alloc _
  have R0 : Hid (Rw.Cel w0 (w.heap.size + 2) [.int .i64 0, .slice none 0 0]) := hw0 ▸ Rw.Cel.new_at _ [_, _] _ (by simp)
  have B0 : Hid (Below w.heap.size w w0) := hw0 ▸ bstep (bstep (below_alloc _ _) (below_alloc _ _)) (below_alloc _ _)
  first | rw [hw0] | skip
  clear hw0
  obtain ⟨x0, x1⟩ := C0.out.two
  go_wp2_with fail
  refine (KC.out w0 (Rats.on HA.out B0.out)).mono ?_
  rintro e w1 ⟨rfl, hb⟩
  have B1 := Lib.hid (bstep B0.out hb)
  have C1 := Lib.hid (C0.out.on hb)
  have F1 := Lib.hid (F0.out.on hb)
  have R1 := Lib.hid (R0.out.on hb)
  clear hb x0 x1
  by_cases hz : E = 0
  rotate_left
  · obtain ⟨z1, z2⟩ := ne_zero hz
    obtain ⟨e1, e2, e3⟩ := filE_ck (m := m) (show ¬ ckT cap L = 0 by rw [HE.out]; exact hz)
    obtain rfl : G = E := by rw [← HG.out.1, ← HE.out]; exact e1
    obtain rfl : GC = 0 := by rw [← HG.out.2.1]; exact e2
    obtain rfl : GL = [] := by rw [← HG.out.2.2]; exact e3
    clear e1 e2 e3
    obtain ⟨u0, u1⟩ := R1.out.two
    obtain ⟨v0, v1⟩ := R1.out.warm2
    go_wp2_with fail
    exact bodyPost_ret (res_tank2 Tryz.results8 rfl (R1.out.put2 _ _)) rfl ⟨_, rfl, InT.zero _, Rw.below_put2 B1.out (by omega) _ _⟩
  subst hz
  have hok := ckT_of HE.out
  obtain ⟨x0, x1⟩ := C1.out.two
  have y0 := F1.out.at_ 0 _ rfl
  by_cases hz : F = 0
  rotate_left
  · obtain ⟨z1, z2⟩ := ne_zero hz
    have hp : ¬ parE m (L.length : Int) = 0 := by rw [← HN.out.1, HF.out]; exact hz
    obtain ⟨e1, e2, e3⟩ := filE_par HE.out hp
    obtain rfl : G = F := by rw [← HG.out.1, e1, ← HN.out.1, HF.out]
    obtain rfl : GC = 0 := by rw [← HG.out.2.1]; exact e2
    obtain rfl : GL = [] := by rw [← HG.out.2.2]; exact e3
    clear e1 e2 e3 hp hok
    go_wp2_with fail
    refine (KP.out w1 (Cl.on HM.out B1.out)).mono ?_
    rintro e w2 ⟨rfl, hb⟩
    have B2 := Lib.hid (bstep B1.out hb)
    have R2 := Lib.hid (R1.out.on hb)
    clear hb x0 x1 y0
    obtain ⟨u0, u1⟩ := R2.out.two
    obtain ⟨v0, v1⟩ := R2.out.warm2
    go_wp2_with fail
    exact bodyPost_ret (res_tank2 Tryz.results8 rfl (R2.out.put2 _ _)) rfl ⟨_, rfl, InT.zero _, Rw.below_put2 B2.out (by omega) _ _⟩
  subst hz
  have HPar : Hid (parE m (L.length : Int) = 0) := Lib.hid (by rw [← HN.out.1]; exact HF.out)
  have HOK := Lib.hid hok
  have HLi := Lib.hid (lisE_of HPar.out)
  clear hok
  go_wp2_with fail
  refine (KP.out w1 (Cl.on HM.out B1.out)).mono ?_
  rintro e w2 ⟨rfl, hb⟩
  have B2 := Lib.hid (bstep B1.out hb)
  have C2 := Lib.hid (C1.out.on hb)
  have F2 := Lib.hid (F1.out.on hb)
  have R2 := Lib.hid (R1.out.on hb)
  have A2 := Lib.hid (Rats.on HA.out B2.out)
  have M2 := Lib.hid (Cl.on HM.out B2.out)
  clear hb x0 x1 y0
  have y0 := F2.out.at_ 0 _ rfl
  have HVL : Hid (∀ t ∈ L, vT t = true) := fun t ht => (HOK.out.all t ht).1
  have HQF : Hid (∀ q ∈ qIs m, fitR q = true) := Lib.hid fun q hq => by
    obtain ⟨z, hz, rfl⟩ := List.mem_map.mp hq
    have := HLi.out.2.2.2 z hz
    exact qI_fit this.1 this.2
  have KF := Lib.hid (p_filled (w := w2) (amt_fill (c := c') (gm := w.heap.size + 1) HN.out.2 HLi.out.2.2.2 (cl_lt M2.out (by have := HLi.out.1; omega)) F2.out.lt) ⟨M2.out, y0⟩ L (by rw [qs_len, qIs_len]; have := HLi.out.2.2.1; omega) HQF.out HVL.out cap A n c HN.out.1 (by have := HOK.out.n0; omega) A2.out (by have := HOK.out.n1; have := HN.out.1; omega))
  rw [← filE_fl HE.out HPar.out, HG.out.1] at KF
  have HFV : Hid (poV (qs L) (qIs m) = filV (qs L) m) := rfl
  rw [HFV.out] at KF
  clear y0
  obtain ⟨x0, x1⟩ := C2.out.two
  go_wp2_with fail
  refine KF.out.mono ?_
  rintro e w3 ⟨x, A3, n3, c3, rfl, hb, hno, hyes⟩
  have R3 := Lib.hid (R2.out.on hb)
  have B3 := Lib.hid (bstep B2.out hb)
  have NO := Lib.hid hno
  have YES := Lib.hid hyes
  clear hb hno hyes x0 x1
  obtain ⟨u0, u1⟩ := R3.out.two
  obtain ⟨v0, v1⟩ := R3.out.warm2
  have hT : InT ((w3.setCell ⟨w.heap.size + 2, 0, none⟩ (.int .i64 x)).setCell ⟨w.heap.size + 2, 1, none⟩ (.slice A3 n3 c3)) (.agg #[.int .i64 x, .slice A3 n3 c3]) GC GL := by
    by_cases hz : G = 0
    · obtain ⟨hT, hf⟩ := YES.out hz
      obtain rfl : cap = GC := by rw [← HG.out.2.1]; exact (if_pos (HG.out.1.trans hz)).symm
      obtain rfl : ts (filV (qs L) m) = GL := by rw [← HG.out.2.2]; exact (if_pos (HG.out.1.trans hz)).symm
      exact hT.tank (ts_vZ hf) R3.out _ _
    · obtain ⟨rfl, rfl, rfl, rfl⟩ := NO.out hz
      obtain rfl : GC = 0 := by rw [← HG.out.2.1]; exact if_neg (by rw [HG.out.1]; exact hz)
      obtain rfl : GL = [] := by rw [← HG.out.2.2]; exact if_neg (by rw [HG.out.1]; exact hz)
      exact InT.zero _
  have HT := Lib.hid hT
  clear hT
  go_wp2_with fail
  exact bodyPost_ret (res_tank2 Tryz.results8 rfl (R3.out.put2 _ _)) rfl ⟨_, rfl, HT.out, Rw.below_put2 B3.out (by omega) _ _⟩
end Go.Proofs.YtagjimdplmimoaaGreat.Tank
/- The program: portion, what Draw hands on. -/
namespace Go.Proofs.YtagjimdplmimoaaGreat.Tank
open Go.ChangeShapes Go.WideShapes Go.RowKit Go.Lib
open Go.Proofs.YtagjimdplmimoaaGreat.Rw (Rd Row Kd Off glt get_lt below_alloc bstep wrap_id below_drewN below_drew drew_below take_snoc_of)
set_option linter.unusedVariables false
set_option maxRecDepth 100000

def ptE (p : Rat) (mass : Int) (v : Rat) : Int := if mass = 0 then 0 else if mulOk p (qI mass) then divEr (p * qI mass) v else 2
def ptV (p : Rat) (mass : Int) (v : Rat) : Rat := if mass = 0 then 0 else tkX p (qI mass) v
theorem ptV_fit {p v : Rat} {mass : Int} (h : ptE p mass v = 0) : fitR (ptV p mass v) = true := by
  unfold ptE at h
  unfold ptV
  by_cases h0 : mass = 0
  · rw [if_pos h0]; exact fit_zero
  · rw [if_neg h0] at h ⊢
    by_cases h1 : mulOk p (qI mass) = true
    · rw [if_pos h1] at h; exact fit_div h
    · rw [if_neg h1] at h; cases h
set_option maxHeartbeats 3200000 in
theorem p_portion (p v : Rat) (mass : Int) (fp : fitR p = true) (fv : fitR v = true) (m0 : 0 ≤ mass) (m1 : mass ≤ MM) (va vc : Value) (w : World) (ha : IsR w va p) (hc : IsR w vc v) :
    Calls Tryz.prog 31 #[va, .int .i64 mass, vc] w (RRes w (ptE p mass v) (ptV p mass v)) := by
  have hMM : MM = 1099511627776 := rfl
  obtain ⟨A1, a1, B1, b1, rfl, -, -⟩ := inR_open ha
  obtain ⟨A3, a3, B3, b3, rfl, -, -⟩ := inR_open hc
  obtain ⟨t0, ht0⟩ : ∃ x, negR p = x := ⟨_, rfl⟩
  obtain ⟨t1, ht1⟩ : ∃ x, (topL p).length = x := ⟨_, rfl⟩
  obtain ⟨t2, ht2⟩ : ∃ x, (botL p).length = x := ⟨_, rfl⟩
  obtain ⟨v0, hv0⟩ : ∃ x, negR v = x := ⟨_, rfl⟩
  obtain ⟨v1, hv1⟩ : ∃ x, (topL v).length = x := ⟨_, rfl⟩
  obtain ⟨v2, hv2⟩ : ∃ x, (botL v).length = x := ⟨_, rfl⟩
  rw [ht0, ht1, ht2] at ha
  rw [hv0, hv1, hv2] at hc
  rw [ht0, ht1, ht2, hv0, hv1, hv2]
  have HA := Lib.hid ha
  have HC := Lib.hid hc
  clear ha hc ht0 ht1 ht2 hv0 hv1 hv2
  by_cases hm : mass = 0
  · subst hm
    have KO := Lib.hid fun W => yq_Of 0 (by decide) (by decide) W
    rw [qI_zero] at KO
    rw [show ptE p 0 v = 0 from rfl, show ptV p 0 v = 0 from rfl]
    clear m0 m1 fp fv hMM
    go_enter Tryz.func31, Tryz.ntmps31
    go_upto_region 1 with fail
    obtain ⟨w0, hw0⟩ : ∃ W, ((w.alloc (.cells #[.bool t0, .slice A1 t1 a1, .slice B1 t2 b1] 46)).alloc (.cells #[.bool v0, .slice A3 v1 a3, .slice B3 v2 b3] 46)).alloc (.cells #[.bool false, .slice none 0 0, .slice none 0 0] 46) = W := ⟨_, rfl⟩
    have R0 : Hid (Rw.Cel w0 (w.heap.size + 2) [.bool false, .slice none 0 0, .slice none 0 0]) := hw0 ▸ Rw.Cel.new_at _ [_, _, _] _ (by simp)
    have B0 : Hid (Below w.heap.size w w0) := hw0 ▸ bstep (bstep (below_alloc _ _) (below_alloc _ _)) (below_alloc _ _)
    first | rw [hw0] | skip
    clear hw0
    go_wp2_with fail
    refine (KO.out w0).mono ?_
    rintro e w1 h
    obtain ⟨b, A, n, c, B, m, d, rfl, ho, hb⟩ := h.open_
    have O1 := Lib.hid (ho.zero rfl)
    have BB := Lib.hid (bstep B0.out hb)
    have R1 := Lib.hid (R0.out.on hb)
    clear h ho hb
    obtain ⟨u0, u1, u2⟩ := R1.out.three
    obtain ⟨f0, f1, f2⟩ := R1.out.warm3
    go_wp2_with fail
    exact bodyPost_ret (res_rat2 Tryz.results31 rfl (R1.out.put3 _ _ _)) rfl ⟨_, rfl, OutR.ok (InR.put3 O1.out (cel_root R1.out) _ _ _), Rw.below_put3 BB.out (by omega) _ _ _⟩
  have KO := Lib.hid fun W => yq_Of mass m0 (by omega) W
  have hmz : (mass == 0) = false := beq_false_of_ne hm
  have K1 := Lib.hid fun a b W h k => yq_Mul p (qI mass) fp (qI_fit m0 m1) a b W h k
  obtain ⟨c1, hc1⟩ : ∃ b, mulOk p (qI mass) = b := ⟨_, rfl⟩
  have K2 := Lib.hid fun (h : c1 = true) a b W hh k => yq_Div (p * qI mass) v (fit_mul (hc1.trans h)) fv a b W hh k
  obtain ⟨D, hD⟩ : ∃ D, divEr (p * qI mass) v = D := ⟨_, rfl⟩
  have HX : Hid (divOp (p * qI mass) v = ptV p mass v) := Lib.hid (by unfold ptV; rw [if_neg hm]; rfl)
  rw [hc1] at K1
  rw [hD, HX.out] at K2
  obtain ⟨X, hX⟩ : ∃ X, ptV p mass v = X := ⟨_, rfl⟩
  obtain ⟨E, hE⟩ : ∃ E, ptE p mass v = E := ⟨_, rfl⟩
  have HE : Hid (E = if c1 then D else 2) := Lib.hid (by rw [← hE, ← hc1, ← hD]; unfold ptE; rw [if_neg hm])
  rw [hX] at K2
  rw [hE, hX]
  clear hc1 hD HX hX hE hm m0 m1 fp fv hMM
  go_enter Tryz.func31, Tryz.ntmps31
  go_upto_region 1 with fail
  obtain ⟨w0, hw0⟩ : ∃ W, ((w.alloc (.cells #[.bool t0, .slice A1 t1 a1, .slice B1 t2 b1] 46)).alloc (.cells #[.bool v0, .slice A3 v1 a3, .slice B3 v2 b3] 46)).alloc (.cells #[.bool false, .slice none 0 0, .slice none 0 0] 46) = W := ⟨_, rfl⟩
  have P0 : Hid (Rw.Cel w0 w.heap.size [.bool t0, .slice A1 t1 a1, .slice B1 t2 b1]) := hw0 ▸ ((Rw.Cel.new w [_, _, _] _).alloc _).alloc _
  have V0 : Hid (Rw.Cel w0 (w.heap.size + 1) [.bool v0, .slice A3 v1 a3, .slice B3 v2 b3]) := hw0 ▸ (Rw.Cel.new_at _ [_, _, _] _ (by simp)).alloc _
  have R0 : Hid (Rw.Cel w0 (w.heap.size + 2) [.bool false, .slice none 0 0, .slice none 0 0]) := hw0 ▸ Rw.Cel.new_at _ [_, _, _] _ (by simp)
  have B0 : Hid (Below w.heap.size w w0) := hw0 ▸ bstep (bstep (below_alloc _ _) (below_alloc _ _)) (below_alloc _ _)
  first | rw [hw0] | skip
  clear hw0
  replace HA := Lib.hid (HA.out.on B0.out)
  replace HC := Lib.hid (HC.out.on B0.out)
  go_wp2_with fail
  refine (KO.out w0).mono ?_
  rintro e w1 h
  obtain ⟨b4, A4, n4, c4, B4, m4, d4, rfl, ho, hb⟩ := h.open_
  have O1 := Lib.hid (ho.zero rfl)
  have BB1 := Lib.hid (bstep B0.out hb)
  have P1 := Lib.hid (P0.out.on hb)
  have V1 := Lib.hid (V0.out.on hb)
  have R1 := Lib.hid (R0.out.on hb)
  replace HA := Lib.hid (HA.out.on hb)
  replace HC := Lib.hid (HC.out.on hb)
  clear h ho hb
  go_upto_region 4 with fail
  obtain ⟨w2, hw2⟩ : ∃ W, w1.alloc (.cells #[.bool b4, .slice A4 n4 c4, .slice B4 m4 d4] 46) = W := ⟨_, rfl⟩
  have b2' : Below w1.heap.size w1 w2 := hw2 ▸ below_alloc _ _
  have X2 : Hid (Rw.Cel w2 w1.heap.size [.bool b4, .slice A4 n4 c4, .slice B4 m4 d4]) := hw2 ▸ Rw.Cel.new w1 [_, _, _] _
  have BB2 := Lib.hid (bstep BB1.out b2')
  have P2 := Lib.hid (P1.out.on b2')
  have V2 := Lib.hid (V1.out.on b2')
  have R2 := Lib.hid (R1.out.on b2')
  have O2 := Lib.hid (O1.out.on b2')
  replace HA := Lib.hid (HA.out.on b2')
  replace HC := Lib.hid (HC.out.on b2')
  rw [hw2]
  clear hw2 b2'
  obtain ⟨x0, x1, x2⟩ := P2.out.three
  obtain ⟨y0, y1, y2⟩ := X2.out.three
  go_wp2_with fail
  refine (K1.out _ _ w2 HA.out O2.out).mono ?_
  rintro e w3 h
  obtain ⟨b5, A5, n5, c5, B5, m5, d5, rfl, ho, hb⟩ := h.open_
  have O3 := Lib.hid ho
  have BB3 := Lib.hid (bstep BB2.out hb)
  have V3 := Lib.hid (V2.out.on hb)
  have R3 := Lib.hid (R2.out.on hb)
  replace HC := Lib.hid (HC.out.on hb)
  clear h ho hb x0 x1 x2 y0 y1 y2
  go_upto_region 5 with fail
  obtain ⟨w4, hw4⟩ : ∃ W, w3.alloc (.cells #[.bool b5, .slice A5 n5 c5, .slice B5 m5 d5] 46) = W := ⟨_, rfl⟩
  have b4' : Below w3.heap.size w3 w4 := hw4 ▸ below_alloc _ _
  have X4 : Hid (Rw.Cel w4 w3.heap.size [.bool b5, .slice A5 n5 c5, .slice B5 m5 d5]) := hw4 ▸ Rw.Cel.new w3 [_, _, _] _
  have BB4 := Lib.hid (bstep BB3.out b4')
  have V4 := Lib.hid (V3.out.on b4')
  have R4 := Lib.hid (R3.out.on b4')
  have O4 := Lib.hid (O3.out.on b4')
  replace HC := Lib.hid (HC.out.on b4')
  rw [hw4]
  clear hw4 b4'
  cases c1 with
  | false =>
    obtain rfl : E = 2 := HE.out
    have zz : okE false = 2 := rfl
    rw [zz]
    obtain ⟨u0, u1, u2⟩ := R4.out.three
    obtain ⟨f0, f1, f2⟩ := R4.out.warm3
    go_wp2_with fail
    exact bodyPost_ret (res_rat2 Tryz.results31 rfl (R4.out.put3 _ _ _)) rfl ⟨_, rfl, OutR.no (by decide), Rw.below_put3 BB4.out (by omega) _ _ _⟩
  | true =>
  obtain rfl : E = D := HE.out
  have zz : okE true = 0 := rfl
  rw [zz]
  replace O4 := Lib.hid (O4.out.zero rfl)
  obtain ⟨x0, x1, x2⟩ := X4.out.three
  obtain ⟨y0, y1, y2⟩ := V4.out.three
  go_wp2_with fail
  refine (K2.out trivial _ _ w4 O4.out HC.out).mono ?_
  rintro e w5 h
  obtain ⟨b6, A6, n6, c6, B6, m6, d6, rfl, ho, hb⟩ := h.open_
  have O5 := Lib.hid ho
  have BB5 := Lib.hid (bstep BB4.out hb)
  have R5 := Lib.hid (R4.out.on hb)
  clear h ho hb x0 x1 x2 y0 y1 y2
  obtain ⟨u0, u1, u2⟩ := R5.out.three
  obtain ⟨f0, f1, f2⟩ := R5.out.warm3
  go_wp2_with fail
  exact bodyPost_ret (res_rat2 Tryz.results31 rfl (R5.out.put3 _ _ _)) rfl ⟨_, rfl, OutR.put3 O5.out (cel_root R5.out) _ _ _, Rw.below_put3 BB5.out (by omega) _ _ _⟩
/-- The error of a part of Draw, and what is left of it. -/
def erD (mass : Int) (v p : Rat) : Int := if ptE p mass v = 0 then okE (subOk p (ptV p mass v)) else ptE p mass v
def leD (mass : Int) (v p : Rat) : Rat := subOp p (ptV p mass v)
theorem erD_of {mass : Int} {v p : Rat} (h : erD mass v p = 0) : ptE p mass v = 0 ∧ subOk p (ptV p mass v) = true := by
  unfold erD at h
  by_cases h1 : ptE p mass v = 0
  · rw [if_pos h1] at h; exact ⟨h1, okE_zero.mp h⟩
  · rw [if_neg h1] at h; exact absurd h h1
theorem erD_zero {v p : Rat} (h : fitR p = true) : erD 0 v p = 0 ∧ leD 0 v p = p := by
  obtain ⟨h1, h2⟩ := sub_zero_ok h
  refine ⟨?_, h2⟩
  unfold erD
  rw [if_pos (show ptE p 0 v = 0 from rfl)]
  exact okE_zero.mpr h1
theorem erD_tk {mass : Int} (hm : ¬ mass = 0) (v p : Rat) : erD mass v p = tkE p (qI mass) v ∧ leD mass v p = tkY p (qI mass) v := by
  unfold erD leD ptE ptV
  rw [if_neg hm, if_neg hm]
  refine ⟨?_, rfl⟩
  unfold tkE
  by_cases h1 : mulOk p (qI mass) = true
  · rw [if_pos h1, if_pos h1]; rfl
  · rw [if_neg h1, if_neg h1]; rfl
theorem leD_fit {mass : Int} {v p : Rat} (hp : fitR p = true) (h : erD mass v p = 0) : fitR (leD mass v p) = true := by
  obtain ⟨h1, h2⟩ := erD_of h
  exact fit_sub hp (ptV_fit h1) h2
theorem drX_pt (L : List Trip) (mass : Int) : drX L mass = (qs L).map fun p => ptV p mass (sumV L) := rfl
theorem drY_le {L : List Trip} {mass : Int} (hL : ∀ t ∈ L, vT t = true) : drY L mass = (qs L).map (leD mass (sumV L)) := by
  unfold drY
  refine List.map_congr_left fun p hp => ?_
  by_cases hm : mass = 0
  · subst hm; rw [if_pos rfl]; exact (erD_zero (qs_fit hL p hp)).2.symm
  · rw [if_neg hm]; exact (erD_tk hm _ _).2.symm
theorem fE_draw {L : List Trip} {mass : Int} (hL : ∀ t ∈ L, vT t = true) : fE (fun k => erD mass (sumV L) ((qs L).getD k 0)) L.length = if mass = 0 then 0 else tkF (qI mass) (sumV L) (qs L) := by
  by_cases hm : mass = 0
  · subst hm
    rw [if_pos rfl]
    refine fE_ok fun j hj => ?_
    obtain ⟨q, hq⟩ := get_lt (L := qs L) (k := j) (by rw [qs_len]; exact hj)
    rw [getD_at hq]
    exact (erD_zero (qs_fit hL q (List.mem_of_getElem? hq))).1
  · rw [if_neg hm]
    rcases fE_spec (fun k => erD mass (sumV L) ((qs L).getD k 0)) L.length with ⟨h1, h2⟩ | ⟨k, h1, h2, h3, h4⟩
    · rw [h1]
      refine (tkF_ok fun j u hu => ?_).symm
      have := h2 j (by have := glt hu; rwa [qs_len] at this)
      rw [getD_at hu, (erD_tk hm _ _).1] at this
      exact this
    · rw [h3]
      obtain ⟨q, hq⟩ := get_lt (L := qs L) (k := k) (by rw [qs_len]; exact h1)
      rw [getD_at hq, (erD_tk hm _ _).1] at h2 ⊢
      refine (tkF_bad hq h2 fun j u hj hu => ?_).symm
      have := h4 j hj
      rw [getD_at hu, (erD_tk hm _ _).1] at this
      exact this
end Go.Proofs.YtagjimdplmimoaaGreat.Tank
/- The program: the function that Draw hands on. -/
namespace Go.Proofs.YtagjimdplmimoaaGreat.Tank
open Go.ChangeShapes Go.WideShapes Go.RowKit Go.Lib
open Go.Proofs.YtagjimdplmimoaaGreat.Rw (Rd Row Kd Off glt get_lt below_alloc bstep wrap_id below_drewN below_drew drew_below take_snoc_of)
set_option linter.unusedVariables false
set_option maxRecDepth 100000

theorem Kep.rat {w : World} {g : Nat} {b : Bool} {A B : Option Addr} {n c m d : Nat} (hc : Rw.Cel w g [.bool b, .slice A n c, .slice B m d]) (x0 x1 x2 : Value) : Kep w (((w.setCell ⟨g, 0, none⟩ x0).setCell ⟨g, 1, none⟩ x1).setCell ⟨g, 2, none⟩ x2) := fun t v hz hi => InR.put3 hi (cel_root hc) x0 x1 x2
/-- The memory ahead of part k of a draw. -/
structure DrJ (L : List Trip) (A : Option Addr) (mass : Int) (b0 : Bool) (A0 : Option Addr) (n0 c0 : Nat) (B0 : Option Addr) (m0 d0 gm gl gt gk n : Nat) (k : Nat) (W : World) : Prop where
  rats : Rats W A L
  cm : Rw.Cel W gm [.int .i64 mass]
  cl : Rw.Cel W gl [.bool b0, .slice A0 n0 c0, .slice B0 m0 d0]
  lv : IsR W (.agg #[.bool b0, .slice A0 n0 c0, .slice B0 m0 d0]) (sumV L)
  ct : Rw.Cel W gt [.slice (some ⟨gk, 0, none⟩) n n]
  row : ∃ R, R.length = k ∧ Rw.Row cR 3 TR gk W (.slice (some ⟨gk, 0, none⟩) n n) (R ++ List.replicate (n - k) zR) ∧ Ins W R (ts ((drX L mass).take k))
  fit : ∀ q ∈ (drX L mass).take k, fitR q = true
section
variable {L : List Trip} {A : Option Addr} {mass : Int} {b0 : Bool} {A0 : Option Addr} {n0 c0 : Nat} {B0 : Option Addr} {m0 d0 gm gl gt gk n : Nat}
theorem DrJ.step_ {k : Nat} {w w' : World} (h : DrJ L A mass b0 A0 n0 c0 B0 m0 d0 gm gl gt gk n k w) (hL : ∀ t ∈ L, vT t = true) (fv : fitR (sumV L) = true) (hA : ∀ b off, A = some ⟨b, off, none⟩ → b < gk) (h1 : gm < gk) (h2 : gl < gk) (h3 : gk < gt) {T : Nat → Prop} (ho : Off T w w') (hT : ∀ y, T y → gk ≤ y ∧ y ≠ gt) (hk : Kep w w')
    (hr : ∃ R, R.length = k + 1 ∧ Rw.Row cR 3 TR gk w' (.slice (some ⟨gk, 0, none⟩) n n) (R ++ List.replicate (n - (k + 1)) zR) ∧ Ins w' R (ts ((drX L mass).take (k + 1)))) (hf : ∀ q ∈ (drX L mass).take (k + 1), fitR q = true) : DrJ L A mass b0 A0 n0 c0 B0 m0 d0 gm gl gt gk n (k + 1) w' := by
  obtain ⟨R, _, hrow, _⟩ := h.row
  have hb : Below gk w w' := ho.below (Nat.le_of_lt (hrow.lt gk rfl).2) fun y hy => (hT y hy).1
  exact ⟨Rats.kep h.rats hA (fun t ht => Or.inl (hL t ht)) hb hk, h.cm.below hb h1, h.cl.below hb h2, hk.isR fv h.lv, h.ct.off ho fun e => (hT _ e).2 rfl, hr, hf⟩
theorem DrJ.stab {k B : Nat} {w w' : World} (h : DrJ L A mass b0 A0 n0 c0 B0 m0 d0 gm gl gt gk n k w) (hL : ∀ t ∈ L, vT t = true) (fv : fitR (sumV L) = true) (hA : ∀ b off, A = some ⟨b, off, none⟩ → b < gk) (h1 : gm < gk) (h2 : gl < gk) (h3 : gk < gt) (h4 : gt < B) (hb : Below B w w') (hk : Kep w w') : DrJ L A mass b0 A0 n0 c0 B0 m0 d0 gm gl gt gk n k w' := by
  obtain ⟨R, hR, hrow, hi⟩ := h.row
  exact ⟨Rats.kep h.rats (fun b off e => by have := hA b off e; omega) (fun t ht => Or.inl (hL t ht)) hb hk, h.cm.below hb (by omega), h.cl.below hb (by omega), hk.isR fv h.lv, h.ct.below hb (by omega), ⟨R, hR, hrow.keep (fun y hy => by cases hy; exact hb.block gk (by omega)), hi.kep hk (ts_vZ h.fit)⟩, h.fit⟩
set_option maxHeartbeats 6400000 in
theorem p_Draw1 {k : Nat} {t : Trip} {va : Value} {w : World} (hL : ∀ t ∈ L, vT t = true) (fv : fitR (sumV L) = true) (mm0 : 0 ≤ mass) (mm1 : mass ≤ MM) (hn : n = L.length) (hn8 : n ≤ 8) (hA : ∀ b off, A = some ⟨b, off, none⟩ → b < gk) (h1 : gm < gk) (h2 : gl < gk) (h3 : gk < gt)
    (ht : L[k]? = some t) (hj : DrJ L A mass b0 A0 n0 c0 B0 m0 d0 gm gl gt gk n k w) (ha : InR w va t.1 t.2.1 t.2.2) :
    Calls Tryz.prog 30 #[.int .i64 k, va, .pointer (some ⟨gm, 0, none⟩), .pointer (some ⟨gl, 0, none⟩), .pointer (some ⟨gt, 0, none⟩)] w (StR w (fun y => y = gk) (erD mass (sumV L) (rT t)) (leD mass (sumV L) (rT t)) (DrJ L A mass b0 A0 n0 c0 B0 m0 d0 gm gl gt gk n (k + 1))) := by
  have hv := hL t (List.mem_of_getElem? ht)
  have fp := (trip_form hv).1
  have hp := trip_isR hv ha
  obtain ⟨A1, a1, B1, b1, rfl, -, -⟩ := inR_open ha
  obtain ⟨t0, ht0⟩ : ∃ x, t.1 = x := ⟨_, rfl⟩
  obtain ⟨t1, ht1⟩ : ∃ x, t.2.1.length = x := ⟨_, rfl⟩
  obtain ⟨t2, ht2⟩ : ∃ x, t.2.2.length = x := ⟨_, rfl⟩
  rw [ht0, ht1, ht2] at hp
  rw [ht0, ht1, ht2]
  have hxk : (drX L mass)[k]? = some (ptV (rT t) mass (sumV L)) := by rw [drX_pt, List.getElem?_map, qs_at ht]; rfl
  have hkl := glt ht
  obtain ⟨p, hpp⟩ : ∃ p, rT t = p := ⟨_, rfl⟩
  rw [hpp] at fp hp hxk ⊢
  obtain ⟨v, hvv⟩ : ∃ v, sumV L = v := ⟨_, rfl⟩
  have HJ := Lib.hid hj
  have HPx := Lib.hid (And.intro fp hp)
  have hlv := hj.lv
  have fv' := fv
  rw [hvv] at hlv fv' hxk ⊢
  have KP := Lib.hid fun a c W h k => p_portion p v mass fp fv' mm0 mm1 a c W h k
  obtain ⟨F, hF⟩ : ∃ F, ptE p mass v = F := ⟨_, rfl⟩
  obtain ⟨X, hX⟩ : ∃ X, ptV p mass v = X := ⟨_, rfl⟩
  have HFX := Lib.hid fun h : F = 0 => (hX ▸ ptV_fit (p := p) (mass := mass) (v := v) (hF.trans h) : fitR X = true)
  have HE : Hid (erD mass v p = if F = 0 then okE (subOk p X) else F) := Lib.hid (by unfold erD; rw [hF, hX])
  have HLe : Hid (leD mass v p = subOp p X) := Lib.hid (by unfold leD; rw [hX])
  rw [hF, hX] at KP
  rw [hX] at hxk
  obtain ⟨E, hE⟩ : ∃ E, erD mass v p = E := ⟨_, rfl⟩
  obtain ⟨Y, hY⟩ : ∃ Y, leD mass v p = Y := ⟨_, rfl⟩
  rw [hE] at HE
  rw [hY] at HLe
  rw [hE, hY]
  have HX := Lib.hid hxk
  have HLV := Lib.hid hlv
  have HL := Lib.hid (And.intro hL (And.intro fv hA))
  have HK := Lib.hid (show k < n by omega)
  have HO := Lib.hid (And.intro h1 (And.intro h2 (And.intro h3 hn8)))
  obtain ⟨R, hR, hrow, hins⟩ := hj.row
  have hgkl := (hrow.lt gk rfl).2
  have HR := Lib.hid (And.intro hR (And.intro hrow hins))
  have hgtl := hj.ct.lt
  have i1 : (k : Int) < (n : Int) := by omega
  have i2 : (0 : Int) ≤ (k : Int) := by omega
  clear ha hp ht0 ht1 ht2 hpp hvv hj hlv fv' hF hX hxk hE hY hL fv hA hR hrow hins hv fp ht hkl hn mm0 mm1 h1 h2 h3 hn8
  go_enter Tryz.func30, Tryz.ntmps30
  go_upto_region 1 with fail
  obtain ⟨w0, hw0⟩ : ∃ W, (w.alloc (.cells #[.bool t0, .slice A1 t1 a1, .slice B1 t2 b1] 46)).alloc (.cells #[.bool false, .slice none 0 0, .slice none 0 0] 46) = W := ⟨_, rfl⟩
  have P0 : Hid (Rw.Cel w0 w.heap.size [.bool t0, .slice A1 t1 a1, .slice B1 t2 b1]) := hw0 ▸ (Rw.Cel.new w [_, _, _] _).alloc _
  have R0 : Hid (Rw.Cel w0 (w.heap.size + 1) [.bool false, .slice none 0 0, .slice none 0 0]) := hw0 ▸ Rw.Cel.new_at _ [_, _, _] _ (by simp)
  have BB0 : Hid (Below w.heap.size w w0) := hw0 ▸ bstep (below_alloc _ _) (below_alloc _ _)
  first | rw [hw0] | skip
  clear hw0
  have M0 := Lib.hid (HJ.out.cm.on BB0.out)
  have L0 := Lib.hid (HJ.out.cl.on BB0.out)
  have T0 := Lib.hid (HJ.out.ct.on BB0.out)
  have X0 := Lib.hid (HPx.out.2.on BB0.out)
  have V0 := Lib.hid (HLV.out.on BB0.out)
  have W0 := Lib.hid (HR.out.2.1.on BB0.out)
  have HS0 := Lib.hid BB0.out.size
  have HLn : Hid ((R ++ List.replicate (n - k) zR).length = n) := fill_len HR.out.1 (Nat.le_of_lt HK.out)
  have HCF : Hid (∀ W, Off (fun y => y = gk) w0 W → (W.cell? ⟨w.heap.size, 0, none⟩ = some (.bool t0) ∧ W.cell? ⟨w.heap.size, 1, none⟩ = some (.slice A1 t1 a1) ∧ W.cell? ⟨w.heap.size, 2, none⟩ = some (.slice B1 t2 b1)) ∧ W.cell? ⟨gm, 0, none⟩ = some (.int .i64 mass) ∧ (W.cell? ⟨gl, 0, none⟩ = some (.bool b0) ∧ W.cell? ⟨gl, 1, none⟩ = some (.slice A0 n0 c0) ∧ W.cell? ⟨gl, 2, none⟩ = some (.slice B0 m0 d0)) ∧ W.cell? ⟨gt, 0, none⟩ = some (.slice (some ⟨gk, 0, none⟩) n n)) := fun W ho =>
    ⟨(P0.out.off ho (by omega)).three, (M0.out.off ho (by have := HO.out; omega)).at_ 0 _ rfl, (L0.out.off ho (by have := HO.out; omega)).three, (T0.out.off ho (by have := HO.out; omega)).at_ 0 _ rfl⟩
  have HRB : Hid (∀ W, Below w0.heap.size w0 W → Rw.Row cR 3 TR gk W (.slice (some ⟨gk, 0, none⟩) n n) (R ++ List.replicate (n - k) zR) ∧ (W.cell? ⟨gk, k * 3, none⟩ = some (.bool false) ∧ W.cell? ⟨gk, k * 3 + 1, none⟩ = some (.slice none 0 0) ∧ W.cell? ⟨gk, k * 3 + 2, none⟩ = some (.slice none 0 0)) ∧ (W.frozen? ⟨gk, k * 3, none⟩ = false ∧ W.frozen? ⟨gk, k * 3 + 1, none⟩ = false ∧ W.frozen? ⟨gk, k * 3 + 2, none⟩ = false)) := fun W hb => by
    have hr := W0.out.on hb
    have hz : (R ++ List.replicate (n - k) zR)[k]? = some zR := by
      rw [List.getElem?_append_right (by rw [HR.out.1]; exact Nat.le_refl _), HR.out.1, Nat.sub_self, List.getElem?_replicate, if_pos (by have := HK.out; omega)]
    exact ⟨hr, rowT_cells hr hz, rowT_frozen hr HLn.out.symm k⟩
  obtain ⟨⟨p0, p1, p2⟩, q0, ⟨r0, r1, r2⟩, s0⟩ := HCF.out _ (Off.refl _ _)
  go_upto_region 2 with fail
  go_region_held3 (fun W => (W.cell? ⟨w.heap.size, 0, none⟩ = some (.bool t0) ∧ W.cell? ⟨w.heap.size, 1, none⟩ = some (.slice A1 t1 a1) ∧ W.cell? ⟨w.heap.size, 2, none⟩ = some (.slice B1 t2 b1)) ∧ W.cell? ⟨gm, 0, none⟩ = some (.int .i64 mass) ∧ (W.cell? ⟨gl, 0, none⟩ = some (.bool b0) ∧ W.cell? ⟨gl, 1, none⟩ = some (.slice A0 n0 c0) ∧ W.cell? ⟨gl, 2, none⟩ = some (.slice B0 m0 d0)) ∧ W.cell? ⟨gt, 0, none⟩ = some (.slice (some ⟨gk, 0, none⟩) n n))
    (first | exact HCF.out _ (Off.refl _ _) | exact HCF.out _ (Off.refl _ _).drew | exact HCF.out _ ((Off.refl _ _).drew.then_below hb3) | exact HCF.out _ (((((Off.refl (fun y => y = gk) w0).drew.then_below hb3).set (p := ⟨gk, k * 3, none⟩) (Or.inl rfl) _).set (p := ⟨gk, k * 3 + 1, none⟩) (Or.inl rfl) _).set (p := ⟨gk, k * 3 + 2, none⟩) (Or.inl rfl) _))
    ((go_at_call 31; (refine (KP.out _ _ _ ?_ ?_).mono ?_); (exact X0.out.on (drew_below _)); (exact V0.out.on (drew_below _)); rintro e w3 h3; obtain ⟨b6, A6, n6, c6, B6, m6, d6, rfl, ho6, hb3⟩ := h3.open_; have HO6 := Lib.hid ho6; clear h3 ho6; (obtain ⟨-, ⟨z0, z1, z2⟩, y0, y1, y2⟩ := HRB.out w3 (bstep (drew_below _) hb3))))
  have HB3 := Lib.hid (bstep (drew_below _) hb3)
  obtain ⟨w4, hw4⟩ : ∃ W, ((w3.setCell ⟨gk, k * 3, none⟩ (.bool b6)).setCell ⟨gk, k * 3 + 1, none⟩ (.slice A6 n6 c6)).setCell ⟨gk, k * 3 + 2, none⟩ (.slice B6 m6 d6) = W := ⟨_, rfl⟩
  have hrow3 := (HRB.out _ HB3.out).1
  have hk3 : k < (R ++ List.replicate (n - k) zR).length := by rw [HLn.out]; exact HK.out
  have W4 : Hid (Rw.Row cR 3 TR gk w4 (.slice (some ⟨gk, 0, none⟩) n n) ((R ++ [(b6, (A6, n6, c6), (B6, m6, d6))]) ++ List.replicate (n - (k + 1)) zR)) := Lib.hid (by
    have := rowT_put hrow3 HLn.out.symm k (b6, (A6, n6, c6), (B6, m6, d6)) hk3
    rw [fill_set _ HR.out.1 HK.out] at this
    exact hw4 ▸ this)
  have K4 : Hid (Kep w3 w4) := hw4 ▸ rowT_kep hrow3 hk3 (b6, (A6, n6, c6), (B6, m6, d6))
  have P4 : Hid (Off (fun y => y = gk) w3 w4) := hw4 ▸ putT_off w3 gk k (b6, (A6, n6, c6), (B6, m6, d6))
  have O4 : Hid (Off (fun y => y = gk) w w4) := Lib.hid (((Off.of_below (S := fun y => y = gk) BB0.out).then_below HB3.out).trans P4.out fun y hy => Or.inl hy)
  have Q4 : Hid (Rw.Cel w4 w.heap.size [.bool t0, .slice A1 t1 a1, .slice B1 t2 b1]) := Lib.hid ((P0.out.on HB3.out).off P4.out (by omega))
  have R4 : Hid (Rw.Cel w4 (w.heap.size + 1) [.bool false, .slice none 0 0, .slice none 0 0]) := Lib.hid ((R0.out.on HB3.out).off P4.out (by omega))
  have T4 : Hid (Rw.Cel w4 gt [.slice (some ⟨gk, 0, none⟩) n n]) := Lib.hid ((T0.out.on HB3.out).off P4.out (by have := HO.out; omega))
  have KK4 : Hid (Kep w w4) := Lib.hid (((Kep.of BB0.out).trans (Kep.of HB3.out)).trans K4.out)
  have X4 := Lib.hid (KK4.out.isR HPx.out.1 HPx.out.2)
  rw [hw4]
  clear hrow3 hk3 hw4 z0 z1 z2 y0 y1 y2 hb3 p0 p1 p2 q0 r0 r1 r2 s0
  by_cases hz : F = 0
  rotate_left
  · obtain ⟨z1, z2⟩ := ne_zero hz
    obtain rfl : E = F := by rw [HE.out, if_neg hz]
    obtain ⟨u0, u1, u2⟩ := R4.out.three
    obtain ⟨f0, f1, f2⟩ := R4.out.warm3
    go_wp2_with fail
    exact bodyPost_ret (res_rat2 Tryz.results30 rfl (R4.out.put3 _ _ _)) rfl ⟨_, _, _, _, _, _, _, rfl, OutR.no hz, O4.out.trans (Rw.off_put3 w4 _ _ _ _) (fun y hy => Or.inr (by subst hy; omega)), KK4.out.trans (Kep.rat R4.out _ _ _), fun h => absurd h hz⟩
  subst hz
  have FX := Lib.hid (HFX.out rfl)
  have Z3 := Lib.hid (HO6.out.zero rfl)
  have Z4 := Lib.hid (K4.out.isR FX.out Z3.out)
  have KS := Lib.hid fun a b W h k => yq_Sub p X HPx.out.1 FX.out a b W h k
  have hE2 := HE.out
  rw [if_pos rfl] at hE2
  rw [← hE2, ← HLe.out] at KS
  clear hE2
  have HC4 : Hid (∀ W, Off (fun y => y = w.heap.size + 1) w4 W → (W.cell? ⟨w.heap.size, 0, none⟩ = some (.bool t0) ∧ W.cell? ⟨w.heap.size, 1, none⟩ = some (.slice A1 t1 a1) ∧ W.cell? ⟨w.heap.size, 2, none⟩ = some (.slice B1 t2 b1)) ∧ W.cell? ⟨gt, 0, none⟩ = some (.slice (some ⟨gk, 0, none⟩) n n) ∧ (W.cell? ⟨gk, k * 3, none⟩ = some (.bool b6) ∧ W.cell? ⟨gk, k * 3 + 1, none⟩ = some (.slice A6 n6 c6) ∧ W.cell? ⟨gk, k * 3 + 2, none⟩ = some (.slice B6 m6 d6))) := fun W ho => by
    have hr := W4.out.keep (w' := W) fun y hy => by
      cases hy
      exact ho.block gk (W4.out.lt gk rfl).2 (by omega)
    have hz : ((R ++ [(b6, (A6, n6, c6), (B6, m6, d6))]) ++ List.replicate (n - (k + 1)) zR)[k]? = some (b6, (A6, n6, c6), (B6, m6, d6)) := by
      rw [List.getElem?_append_left (by rw [List.length_append, HR.out.1]; simp), List.getElem?_append_right (by rw [HR.out.1]; exact Nat.le_refl _), HR.out.1, Nat.sub_self]; rfl
    exact ⟨(Q4.out.off ho (by omega)).three, (T4.out.off ho (by omega)).at_ 0 _ rfl, rowT_cells hr hz⟩
  have HRes : Hid (∀ W, Below w4.heap.size w4 W → (W.cell? ⟨w.heap.size + 1, 0, none⟩ = some (.bool false) ∧ W.cell? ⟨w.heap.size + 1, 1, none⟩ = some (.slice none 0 0) ∧ W.cell? ⟨w.heap.size + 1, 2, none⟩ = some (.slice none 0 0)) ∧ (W.frozen? ⟨w.heap.size + 1, 0, none⟩ = false ∧ W.frozen? ⟨w.heap.size + 1, 1, none⟩ = false ∧ W.frozen? ⟨w.heap.size + 1, 2, none⟩ = false)) := fun W hb => ⟨(R4.out.on hb).three, (R4.out.on hb).warm3⟩
  obtain ⟨⟨p0, p1, p2⟩, s0, z0, z1, z2⟩ := HC4.out _ (Off.refl _ _)
  go_upto_region 5 with fail
  go_region_held3 (fun W => (W.cell? ⟨w.heap.size, 0, none⟩ = some (.bool t0) ∧ W.cell? ⟨w.heap.size, 1, none⟩ = some (.slice A1 t1 a1) ∧ W.cell? ⟨w.heap.size, 2, none⟩ = some (.slice B1 t2 b1)) ∧ W.cell? ⟨gt, 0, none⟩ = some (.slice (some ⟨gk, 0, none⟩) n n) ∧ (W.cell? ⟨gk, k * 3, none⟩ = some (.bool b6) ∧ W.cell? ⟨gk, k * 3 + 1, none⟩ = some (.slice A6 n6 c6) ∧ W.cell? ⟨gk, k * 3 + 2, none⟩ = some (.slice B6 m6 d6)))
    (first | exact HC4.out _ (Off.refl _ _) | exact HC4.out _ (Off.refl _ _).drew | exact HC4.out _ ((Off.refl _ _).drew.then_below hb5) | exact HC4.out _ (((((Off.refl (fun y => y = w.heap.size + 1) w4).drew.then_below hb5).set (p := ⟨w.heap.size + 1, 0, none⟩) (Or.inl rfl) _).set (p := ⟨w.heap.size + 1, 1, none⟩) (Or.inl rfl) _).set (p := ⟨w.heap.size + 1, 2, none⟩) (Or.inl rfl) _))
    ((go_at_call 32; (refine (KS.out _ _ _ ?_ ?_).mono ?_); (exact X4.out.on (drew_below _)); (exact Z4.out.on (drew_below _)); rintro e w5 h5; obtain ⟨b7, A7, n7, c7, B7, m7, d7, rfl, ho7, hb5⟩ := h5.open_; have HO7 := Lib.hid ho7; clear h5 ho7; (obtain ⟨⟨y0, y1, y2⟩, g0, g1, g2⟩ := HRes.out w5 (bstep (drew_below _) hb5))))
  have HB5 := Lib.hid (bstep (drew_below _) hb5)
  have R5 := Lib.hid (R4.out.on HB5.out)
  have K5 : Hid (Kep w4 (((w5.setCell ⟨w.heap.size + 1, 0, none⟩ (.bool b7)).setCell ⟨w.heap.size + 1, 1, none⟩ (.slice A7 n7 c7)).setCell ⟨w.heap.size + 1, 2, none⟩ (.slice B7 m7 d7))) := Lib.hid ((Kep.of HB5.out).trans (Kep.rat R5.out _ _ _))
  have P5 : Hid (Off (fun y => y = w.heap.size + 1) w4 (((w5.setCell ⟨w.heap.size + 1, 0, none⟩ (.bool b7)).setCell ⟨w.heap.size + 1, 1, none⟩ (.slice A7 n7 c7)).setCell ⟨w.heap.size + 1, 2, none⟩ (.slice B7 m7 d7))) := Lib.hid ((Off.of_below HB5.out).trans (Rw.off_put3 w5 _ _ _ _) fun y hy => Or.inl hy)
  have O5 : Hid (Off (fun y => y = gk) w (((w5.setCell ⟨w.heap.size + 1, 0, none⟩ (.bool b7)).setCell ⟨w.heap.size + 1, 1, none⟩ (.slice A7 n7 c7)).setCell ⟨w.heap.size + 1, 2, none⟩ (.slice B7 m7 d7))) := Lib.hid (O4.out.trans P5.out fun y hy => Or.inr (by omega))
  have hfit : ∀ q ∈ (drX L mass).take (k + 1), fitR q = true := by
    rw [take_snoc_of HX.out]
    intro q hq
    rcases List.mem_append.mp hq with hq | hq
    · exact HJ.out.fit q hq
    · simp at hq; subst hq; exact FX.out
  have hrow5 := W4.out.keep (w' := (((w5.setCell ⟨w.heap.size + 1, 0, none⟩ (.bool b7)).setCell ⟨w.heap.size + 1, 1, none⟩ (.slice A7 n7 c7)).setCell ⟨w.heap.size + 1, 2, none⟩ (.slice B7 m7 d7))) fun y hy => by
    cases hy
    exact P5.out.block gk (W4.out.lt gk rfl).2 (by omega)
  obtain ⟨en, ip, iq⟩ := IsR.cells Z4.out
  have hins5 : Ins (((w5.setCell ⟨w.heap.size + 1, 0, none⟩ (.bool b7)).setCell ⟨w.heap.size + 1, 1, none⟩ (.slice A7 n7 c7)).setCell ⟨w.heap.size + 1, 2, none⟩ (.slice B7 m7 d7)) (R ++ [(b6, (A6, n6, c6), (B6, m6, d6))]) (ts ((drX L mass).take (k + 1))) := by
    refine Ins.kep ?_ K5.out (ts_vZ hfit)
    rw [ts_take_succ HX.out]
    exact (HR.out.2.2.kep KK4.out (ts_vZ HJ.out.fit)).snoc (r := (b6, (A6, n6, c6), (B6, m6, d6))) (t := triR X) en ip iq
  have hfin := HJ.out.step_ HL.out.1 HL.out.2.1 HL.out.2.2 HO.out.1 HO.out.2.1 HO.out.2.2.1 O5.out (fun y hy => ⟨by omega, by have := HO.out.2.2.1; omega⟩) (KK4.out.trans K5.out) ⟨R ++ [(b6, (A6, n6, c6), (B6, m6, d6))], by rw [List.length_append, HR.out.1]; rfl, hrow5, hins5⟩ hfit
  have HFIN := Lib.hid hfin
  have HOUT := Lib.hid (OutR.put3 HO7.out (cel_root R5.out) (.bool b7) (.slice A7 n7 c7) (.slice B7 m7 d7))
  clear hfin hrow5 hins5 hfit en ip iq hb5 y0 y1 y2 g0 g1 g2 p0 p1 p2 s0 z0 z1 z2
  go_wp2_with fail
  exact bodyPost_ret (res_rat2 Tryz.results30 rfl (R5.out.put3 _ _ _)) rfl ⟨_, _, _, _, _, _, _, rfl, HOUT.out, O5.out, KK4.out.trans K5.out, fun _ => HFIN.out⟩
theorem bcm_draw {B : Nat} (hL : ∀ t ∈ L, vT t = true) (fv : fitR (sumV L) = true) (mm0 : 0 ≤ mass) (mm1 : mass ≤ MM) (hn : n = L.length) (hn8 : n ≤ 8) (hA : ∀ b off, A = some ⟨b, off, none⟩ → b < gk) (h1 : gm < gk) (h2 : gl < gk) (h3 : gk < gt) (h4 : gt < B) :
    Bcm 30 #[] #[.pointer (some ⟨gm, 0, none⟩), .pointer (some ⟨gl, 0, none⟩), .pointer (some ⟨gt, 0, none⟩)] L (drY L mass) (fun k => erD mass (sumV L) ((qs L).getD k 0)) B (fun y => y = gk) A (DrJ L A mass b0 A0 n0 c0 B0 m0 d0 gm gl gt gk n) where
  eg := enters_of Tryz.func30 (by kernel_rfl) rfl
  lt := fun y h => by omega
  rats := fun k W h => h.rats
  stab := fun k W W' h hs hb hk => h.stab hL fv hA h1 h2 h3 h4 hb hk
  fit := fun k q hq he => by
    rw [drY_le hL, List.getElem?_map] at hq
    cases hp : (qs L)[k]? with
    | none => rw [hp] at hq; cases hq
    | some p =>
      rw [hp] at hq
      cases hq
      rw [getD_at hp] at he
      exact leD_fit (qs_fit hL p (List.mem_of_getElem? hp)) he
  step := fun k t q W v ht hq hs hJ hi => by
    rw [drY_le hL, List.getElem?_map, qs_at ht] at hq
    cases hq
    rw [getD_at (qs_at ht)]
    exact p_Draw1 hL fv mm0 mm1 hn hn8 hA h1 h2 h3 ht hJ hi
end
end Go.Proofs.YtagjimdplmimoaaGreat.Tank
