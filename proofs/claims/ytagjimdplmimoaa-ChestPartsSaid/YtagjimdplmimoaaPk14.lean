/- Several texts in one: NatZ5, RatC, RatD, RatE, RatF, RatG, RatH, RatI, RatJ, RatK. -/
import Derived.Test.YtagjimdplmimoaaPk13
import Derived.Deep.RegionHeld3
import Derived.Test.YtagjimdplmimoaaPk11
import Derived.LoopN
import Derived.StillTailTactics
/- The contract of nat.shortened. -/
namespace Go.Proofs.Ytagjimdplmimoaa
open Go.ChangeShapes Go.WideShapes Go.RowKit
set_option linter.unusedVariables false
set_option maxRecDepth 100000

set_option maxHeartbeats 6400000 in
theorem nat_shortened (xs ys : List Int) (va vb : Value) (w : World) (ha : In w va xs) (hb : In w vb ys) (hx : nrm xs = true) (hy : nrm ys = true) (hly : 2 < ys.length) (hlx : xs.length ≤ 1000) (hly2 : ys.length ≤ 1000) :
    Calls Try.prog 87 #[va, vb] w (ShortRes w xs ys) := by
  have HIA := Lib.hid ha
  have HIB := Lib.hid hb
  obtain ⟨A, ca, rfl, hc, hm, hA⟩ := ha
  obtain ⟨B, cb, rfl, hd, hn, hB⟩ := hb
  have hfs := nat_foreseen xs ys A B ca cb w hA hB (nrm_lok hx) (nrm_lok hy) hly hc hd hlx hly2
  have HFS := Lib.hid hfs
  have HA := Lib.hid hA
  have HB := Lib.hid hB
  have HX := Lib.hid hx
  have HY := Lib.hid hy
  clear hA hB hx hy hfs hm hn
  go_enter Try.func87, Try.ntmps87
  go_wp2_with (go_at_call 99; refine HFS.out.mono ?_; rintro e w1 ⟨a, b, c, d, u, v, u0, v0, rfl, hinv, hle, hb1⟩; refine Hid.out ?_)
  refine Lib.hid ?_
  have HI := Lib.hid hinv
  have HLE := Lib.hid hle
  have HB1 := Lib.hid hb1
  have bd := hinv.bd
  clear hinv hle hb1
  by_cases hb0 : b = 0
  · subst hb0
    have HB2 := Lib.hid (balloc HB1.out (.cells #[.int .i64 a, .int .i64 0, .int .i64 c, .int .i64 d] 114))
    go_wp2_with fail
    refine (nat_divide xs ys _ _ _ (HIA.out.on HB2.out) (HIB.out.on HB2.out) HX.out HY.out hlx (by omega)).mono ?_
    rintro e w3 ⟨vq, vr, rfl, -, hr, hb3⟩
    have HR := Lib.hid hr.toIn
    have HB3 := Lib.hid (bstep HB2.out hb3)
    clear hr hb3
    go_wp2_with fail
    go_ret2
    have y0 := nval_pos HY.out (by omega)
    have x0 := nval_nonneg (nrm_lok HX.out)
    have hlt : (nval xs).toNat % (nval ys).toNat < (nval ys).toNat := Nat.mod_lt _ (by omega)
    refine ⟨_, _, ys, limbs ((nval xs).toNat % (nval ys).toNat), rfl, HIB.out.on HB3.out, HR.out, HY.out, nrm_of_limbs _, Nat.le_refl _, len_le_of HY.out (by omega), ?_, ?_, HB3.out⟩
    · rw [nval_limbs, Int.toNat_natCast]; exact gcd_step _ _
    · rw [nval_limbs]; omega
  · have hbn : (b == 0) = false := beq_false_of_ne hb0
    have hfc := short_facts HI.out hb0 HX.out HY.out
    have hlen := HLE.out hb0
    obtain ⟨f1, f2, f3, f4, f5⟩ := hfc
    have hc1 : ∀ W, Below w.heap.size w W → Calls Try.prog 100 #[.slice A xs.length ca, .int .i64 a, .slice B ys.length cb, .int .i64 b] W (GcdRes W (a * nval xs + b * nval ys).toNat) :=
      fun W hW => nat_combined xs ys A B ca cb a b W ((HA.out.below hW (Nat.le_refl _)).more (Nat.le_refl _) hW.size) ((HB.out.below hW (Nat.le_refl _)).more (Nat.le_refl _) hW.size) (nrm_lok HX.out) (nrm_lok HY.out) hlen hlx (by omega) (by omega) (by omega) (by omega) f1 f2
    have hc2 : ∀ W, Below w.heap.size w W → Calls Try.prog 100 #[.slice A xs.length ca, .int .i64 c, .slice B ys.length cb, .int .i64 d] W (GcdRes W (c * nval xs + d * nval ys).toNat) :=
      fun W hW => nat_combined xs ys A B ca cb c d W ((HA.out.below hW (Nat.le_refl _)).more (Nat.le_refl _) hW.size) ((HB.out.below hW (Nat.le_refl _)).more (Nat.le_refl _) hW.size) (nrm_lok HX.out) (nrm_lok HY.out) hlen hlx (by omega) (by omega) (by omega) (by omega) f3 (by omega)
    have HC1 := Lib.hid hc1
    have HC2 := Lib.hid hc2
    have F2 := Lib.hid f2
    have F4 := Lib.hid f4
    have F5 := Lib.hid f5
    have F1 := Lib.hid f1
    have F3 := Lib.hid f3
    obtain ⟨W2, hW2⟩ : ∃ W2, W2 = w1.alloc (.cells #[.int .i64 a, .int .i64 b, .int .i64 c, .int .i64 d] 114) := ⟨_, rfl⟩
    have hfour : Four W2 w1.heap.size a b c d := by rw [hW2]; exact Four.new _ _ _ _ _ _
    have hbw : Below w.heap.size w W2 := by rw [hW2]; exact balloc HB1.out _
    have four_on : ∀ (W W' : World), Four W w1.heap.size a b c d → Below W.heap.size W W' → W'.cell? ⟨w1.heap.size, 0, none⟩ = some (.int .i64 a) ∧ W'.cell? ⟨w1.heap.size, 1, none⟩ = some (.int .i64 b) ∧ W'.cell? ⟨w1.heap.size, 2, none⟩ = some (.int .i64 c) ∧ W'.cell? ⟨w1.heap.size, 3, none⟩ = some (.int .i64 d) := by
      intro W W' h hb
      have h' := (h.keep (hb.block _ h.lt)).row
      exact ⟨h'.cell (i := 0) rfl, h'.cell (i := 1) rfl, h'.cell (i := 2) rfl, h'.cell (i := 3) rfl⟩
    have FO := Lib.hid four_on
    have HF := Lib.hid hfour
    have HBW := Lib.hid hbw
    clear hc1 hc2 f1 f2 f3 f4 f5 four_on hfour hbw hlen
    go_wp2_with fail
    rw [← hW2]
    obtain ⟨g0, g1, g2, g3⟩ := FO.out W2 W2 HF.out (Below.refl _ _)
    clear hW2
    go_region_held3 (fun W' => W'.cell? ⟨w1.heap.size, 0, none⟩ = some (.int .i64 a) ∧ W'.cell? ⟨w1.heap.size, 1, none⟩ = some (.int .i64 b) ∧ W'.cell? ⟨w1.heap.size, 2, none⟩ = some (.int .i64 c) ∧ W'.cell? ⟨w1.heap.size, 3, none⟩ = some (.int .i64 d))
      (first | exact ⟨g0, g1, g2, g3⟩ | exact FO.out W2.drew _ (HF.out.keep rfl) (by assumption) | exact FO.out W2.drew _ (HF.out.keep rfl) (bstep hb3 (by assumption)))
      (first | (go_at_call 100; (with_reducible refine (HC1.out _ HBW.out.drew).mono ?_); rintro e w3 ⟨v1, rfl, hs1, hb3⟩) | (go_at_call 100; (with_reducible refine (HC2.out _ (bstep HBW.out.drew hb3)).mono ?_); rintro e w4 ⟨v2, rfl, hs2, hb4⟩))
    all_goals go_wp2_with fail
    all_goals go_ret2
    all_goals have hb34 := bstep (bstep HBW.out.drew hb3) hb4
    all_goals exact ⟨v1, v2, limbs (a * nval xs + b * nval ys).toNat, limbs (c * nval xs + d * nval ys).toNat, rfl, hs1.toIn.on hb4, hs2.toIn, nrm_of_limbs _, nrm_of_limbs _, len_le_of HY.out (by have := F2.out; omega), len_le_of HY.out (by have := F4.out; omega), (by rw [nval_limbs, nval_limbs, Int.toNat_natCast, Int.toNat_natCast]; exact F5.out), (by rw [nval_limbs]; have := F3.out; have := F4.out; omega), hb34⟩
end Go.Proofs.Ytagjimdplmimoaa
/- Contracts of rat.reduced and of Reduce of the reference; the calls of nat that they make. -/
namespace Go.Proofs.Ytagjimdplmimoaa
open Go.ChangeShapes Go.WideShapes Go.RowKit
set_option linter.unusedVariables false
set_option maxRecDepth 100000

theorem in_open {w : World} {v : Value} {zs : List Int} (h : In w v zs) : ∃ A c, v = .slice A zs.length c ∧ In w (.slice A zs.length c) zs := by
  obtain ⟨A, c, rfl, k⟩ := h; exact ⟨A, c, rfl, A, c, rfl, k⟩
/-- A store into a cell that holds no integer leaves the limbs alone. -/
theorem In.set {w : World} {v : Value} {zs : List Int} {p : Addr} {u : Value} (h : In w v zs) (hx : w.cell? p = some u) (hu : ∀ z, u ≠ .int .i64 z) (x : Value) : In (w.setCell p x) v zs := by
  obtain ⟨A, c, rfl, h1, h2, h3⟩ := h
  refine ⟨A, c, rfl, h1, h2, fun k z hz => ?_⟩
  obtain ⟨b, off, hA, hlo, hlt, hc⟩ := h3 k z hz
  refine ⟨b, off, hA, ⟨Nat.zero_le _, Or.inl rfl⟩, by simpa using hlt, ?_⟩
  rw [World.cell?_setCell_other w p _ x (fun e => by subst e; rw [hx] at hc; cases hc; exact hu z rfl)]
  exact hc

/-- A number in a block: three cells, none frozen. -/
def Cel (w : World) (g : Nat) (u0 u1 u2 : Value) : Prop :=
  (w.cell? ⟨g, 0, none⟩ = some u0 ∧ w.cell? ⟨g, 1, none⟩ = some u1 ∧ w.cell? ⟨g, 2, none⟩ = some u2) ∧ (w.frozen? ⟨g, 0, none⟩ = false ∧ w.frozen? ⟨g, 1, none⟩ = false ∧ w.frozen? ⟨g, 2, none⟩ = false)
theorem Cel.lt {w : World} {g : Nat} {u0 u1 u2 : Value} (h : Cel w g u0 u1 u2) : g < w.heap.size := World.block_lt_of_cell? w _ h.1.1
theorem Cel.below {w w' : World} {B g : Nat} {u0 u1 u2 : Value} (h : Cel w g u0 u1 u2) (hb : Below B w w') (hg : g < B) : Cel w' g u0 u1 u2 := by
  obtain ⟨⟨h0, h1, h2⟩, f0, f1, f2⟩ := h
  exact ⟨⟨(hb.cell (p := ⟨g, 0, none⟩) hg).trans h0, (hb.cell (p := ⟨g, 1, none⟩) hg).trans h1, (hb.cell (p := ⟨g, 2, none⟩) hg).trans h2⟩,
    (hb.frozen (p := ⟨g, 0, none⟩) hg).trans f0, (hb.frozen (p := ⟨g, 1, none⟩) hg).trans f1, (hb.frozen (p := ⟨g, 2, none⟩) hg).trans f2⟩
theorem Cel.on {w w' : World} {g : Nat} {u0 u1 u2 : Value} (h : Cel w g u0 u1 u2) (hb : Below w.heap.size w w') : Cel w' g u0 u1 u2 := h.below hb h.lt
theorem Cel.alloc {w : World} {g : Nat} {u0 u1 u2 : Value} (h : Cel w g u0 u1 u2) (o : Obj) : Cel (w.alloc o) g u0 u1 u2 := h.on (below_alloc w o)
theorem set_same {w : World} {a : Addr} {u : Value} (h : w.cell? a = some u) (v : Value) : (w.setCell a v).cell? a = some v := World.cell?_setCell_same w a v h
theorem frozen_of {W : World} {g : Nat} {cs : Array Value} {t : TypeId} (h : W.heap[g]? = some (.cells cs t (0, 0))) (i : Nat) : W.frozen? ⟨g, i, none⟩ = false := by simp [World.frozen?, h]
theorem Cel.new (w : World) (u0 u1 u2 : Value) (t : TypeId) : Cel (w.alloc (.cells #[u0, u1, u2] t)) w.heap.size u0 u1 u2 := by
  have hb := heap_alloc_new w (.cells #[u0, u1, u2] t)
  refine ⟨⟨?_, ?_, ?_⟩, ?_, ?_, ?_⟩
  · rw [cell_of_row _ _ _ _ _ _ hb]; rfl
  · rw [cell_of_row _ _ _ _ _ _ hb]; rfl
  · rw [cell_of_row _ _ _ _ _ _ hb]; rfl
  · exact frozen_of hb _
  · exact frozen_of hb _
  · exact frozen_of hb _
/-- A number stored into such a block. -/
def put3 (w : World) (g : Nat) (u0 u1 u2 : Value) : World := ((w.setCell ⟨g, 0, none⟩ u0).setCell ⟨g, 1, none⟩ u1).setCell ⟨g, 2, none⟩ u2
theorem put3_size (w : World) (g : Nat) (u0 u1 u2 : Value) : (put3 w g u0 u1 u2).heap.size = w.heap.size := by simp [put3]
theorem Cel.put3 {w : World} {g : Nat} {u0 u1 u2 : Value} (h : Cel w g u0 u1 u2) (x0 x1 x2 : Value) : Cel (put3 w g x0 x1 x2) g x0 x1 x2 := by
  obtain ⟨⟨h0, h1, h2⟩, f0, f1, f2⟩ := h
  have ne : ∀ (i j : Nat), i ≠ j → ((⟨g, i, none⟩ : Addr) ≠ ⟨g, j, none⟩) := fun i j hij e => by cases e; exact hij rfl
  have a0 : ∀ (W : World) (x : Value) (i : Nat), i ≠ 0 → (W.setCell ⟨g, 0, none⟩ x).cell? ⟨g, i, none⟩ = W.cell? ⟨g, i, none⟩ := fun W x i hi => World.cell?_setCell_other W _ _ x (ne _ _ hi.symm)
  have a1 : ∀ (W : World) (x : Value) (i : Nat), i ≠ 1 → (W.setCell ⟨g, 1, none⟩ x).cell? ⟨g, i, none⟩ = W.cell? ⟨g, i, none⟩ := fun W x i hi => World.cell?_setCell_other W _ _ x (ne _ _ hi.symm)
  have a2 : ∀ (W : World) (x : Value) (i : Nat), i ≠ 2 → (W.setCell ⟨g, 2, none⟩ x).cell? ⟨g, i, none⟩ = W.cell? ⟨g, i, none⟩ := fun W x i hi => World.cell?_setCell_other W _ _ x (ne _ _ hi.symm)
  unfold Go.Proofs.Ytagjimdplmimoaa.put3
  refine ⟨⟨?_, ?_, ?_⟩, ?_, ?_, ?_⟩
  · rw [a2 _ _ _ (by decide), a1 _ _ _ (by decide)]; exact set_same h0 _
  · rw [a2 _ _ _ (by decide)]; exact set_same ((a0 _ _ _ (by decide)).trans h1) _
  · exact set_same (((a1 _ _ _ (by decide)).trans (a0 _ _ _ (by decide))).trans h2) _
  · simpa using f0
  · simpa using f1
  · simpa using f2
theorem In.put3 {w : World} {v : Value} {zs : List Int} {g : Nat} {b : Bool} {A B : Option Addr} {n c m d : Nat} (h : In w v zs) (hc : Cel w g (.bool b) (.slice A n c) (.slice B m d)) (x0 x1 x2 : Value) : In (put3 w g x0 x1 x2) v zs := by
  have ne : ∀ (i j : Nat), i ≠ j → ((⟨g, i, none⟩ : Addr) ≠ ⟨g, j, none⟩) := fun i j hij e => by cases e; exact hij rfl
  obtain ⟨⟨h0, h1, h2⟩, -⟩ := hc
  refine ((h.set h0 (fun _ e => by cases e) x0).set (p := ⟨g, 1, none⟩) (u := .slice A n c) ?_ (fun _ e => by cases e) x1).set (p := ⟨g, 2, none⟩) (u := .slice B m d) ?_ (fun _ e => by cases e) x2
  · exact (World.cell?_setCell_other _ _ _ _ (ne _ _ (by decide))).trans h1
  · exact (World.cell?_setCell_other _ _ _ _ (ne _ _ (by decide))).trans ((World.cell?_setCell_other _ _ _ _ (ne _ _ (by decide))).trans h2)
theorem below_put3 {B : Nat} {w w' : World} (h : Below B w w') {g : Nat} (hg : B ≤ g) (x0 x1 x2 : Value) : Below B w (put3 w' g x0 x1 x2) :=
  ((h.setCell (p := ⟨g, 0, none⟩) hg _).setCell (p := ⟨g, 1, none⟩) hg _).setCell (p := ⟨g, 2, none⟩) hg _

theorem nat_Gcd_in (xs ys : List Int) (va vb : Value) (w : World) (ha : In w va xs) (hb : In w vb ys) :
    Calls Try.prog 54 #[va, vb] w (ResIn w (gcdN xs ys) (formE xs ys)) := by
  refine (Gcd_of xs ys va vb w ha hb fun h1 h2 => gcd_of_short (fun xs ys va vb W ha hb hx hy h1 h2 h3 => nat_shortened xs ys va vb W ha hb hx hy h1 h2 h3) xs ys va vb w ha hb (valid_nrm h1) (valid_nrm h2) (by have := valid_len h1; omega) (by have := valid_len h2; omega)).mono ?_
  rintro e w' ⟨v, h1, h2, h3⟩
  exact ⟨v, h1, h2.toIn, h3⟩
theorem nat_DivMod_in (xs ys : List Int) (va vb : Value) (w : World) (ha : In w va xs) (hb : In w vb ys) :
    Calls Try.prog 55 #[va, vb] w (DmIn w xs ys) := by
  refine (nat_DivMod xs ys va vb w ha hb).mono ?_
  rintro e w' ⟨vq, vr, h1, h2, h3, h4⟩
  exact ⟨vq, vr, h1, h2.toIn, h3.toIn, h4⟩

theorem both48 {p q : Nat} (hp : p < big48) (hq : q < big48) : both (limbs p) (limbs q) = true := by rw [both, valid48 hp, valid48 hq]; rfl
theorem gcdN_limbs {p q : Nat} (hp : p < big48) (hq : q < big48) : gcdN (limbs p) (limbs q) = Nat.gcd p q := by rw [gcdN, both48 hp hq, if_pos rfl, nvt, nvt]
theorem formE_limbs {p q : Nat} (hp : p < big48) (hq : q < big48) : formE (limbs p) (limbs q) = 0 := by rw [formE, both48 hp hq, if_pos rfl]
theorem divOk_limbs {p q : Nat} (hp : p < big48) (hq : q < big48) (h0 : q ≠ 0) : divOk (limbs p) (limbs q) = true := by rw [divOk, both48 hp hq, limbs_ne h0]; rfl
theorem quoN_limbs {p q : Nat} (hp : p < big48) (hq : q < big48) (h0 : q ≠ 0) : quoN (limbs p) (limbs q) = p / q := by rw [quoN, divOk_limbs hp hq h0, if_pos rfl, nvt, nvt]
theorem remN_limbs {p q : Nat} (hp : p < big48) (hq : q < big48) (h0 : q ≠ 0) : remN (limbs p) (limbs q) = p % q := by rw [remN, divOk_limbs hp hq h0, if_pos rfl, nvt, nvt]
theorem divE_limbs {p q : Nat} (hp : p < big48) (hq : q < big48) (h0 : q ≠ 0) : divE (limbs p) (limbs q) = 0 := by rw [divE, both48 hp hq, if_pos rfl, limbs_ne h0]; rfl
theorem red_form {b : Bool} {p q : Nat} (h0 : q ≠ 0) :
    negR (mkRat (sgI b p) q) = (b && !(limbs (p / Nat.gcd p q)).isEmpty) ∧ topL (mkRat (sgI b p) q) = limbs (p / Nat.gcd p q) ∧ botL (mkRat (sgI b p) q) = limbs (q / Nat.gcd p q) := by
  obtain ⟨h1, h2⟩ := mk_parts (b := b) (p := p) h0
  refine ⟨?_, ?_, ?_⟩
  · rw [negR_sg h1, limbs_emp]
    congr 1; by_cases h : p / Nat.gcd p q = 0
    · rw [h]; rfl
    · rw [decide_eq_true (Nat.pos_of_ne_zero h), decide_eq_false h]; rfl
  · unfold topL; rw [h1, sgI_abs]
  · unfold botL; rw [h2]

set_option maxHeartbeats 800000 in
theorem rat_reduced (b : Bool) (p q : Nat) (va vb : Value) (w : World) (ha : In w va (limbs p)) (hb : In w vb (limbs q)) (hp : p < big48) (hq : q < big48) (h0 : q ≠ 0) :
    Calls Try.prog 41 #[.bool b, va, vb] w (fun e w' => ∃ v, e = .returned v ∧ IsR w' v (mkRat (sgI b p) q) ∧ Below w.heap.size w w') := by
  have hg : Nat.gcd p q < big48 ∧ Nat.gcd p q ≠ 0 := ⟨Nat.lt_of_le_of_lt (Nat.gcd_le_right _ (by omega)) hq, fun h => h0 (Nat.eq_zero_of_gcd_eq_zero_right h)⟩
  have FF := Lib.hid (red_form (b := b) (p := p) h0)
  have G := Lib.hid (gcdN_limbs hp hq)
  have D1 := Lib.hid (quoN_limbs hp hg.1 hg.2)
  have D2 := Lib.hid (quoN_limbs hq hg.1 hg.2)
  have HC := Lib.hid (Cel.new w (.bool false) (.slice none 0 0) (.slice none 0 0) 46)
  obtain ⟨A, c, rfl, ha'⟩ := in_open ha
  obtain ⟨B, d, rfl, hb'⟩ := in_open hb
  have HA := Lib.hid ha'
  have HB := Lib.hid hb'
  clear ha hb ha' hb' hp hq h0 hg
  go_enter Try.func41, Try.ntmps41
  go_wp2_with fail
  refine (nat_Gcd_in _ _ _ _ _ (HA.out.alloc _) (HB.out.alloc _)).mono ?_
  rintro e w1 ⟨v1, rfl, h1, hb1⟩
  rw [G.out] at h1
  have HG := Lib.hid h1
  have HB1 := Lib.hid hb1
  have HC1 := Lib.hid (HC.out.on hb1)
  clear h1 hb1
  go_wp2_with fail
  refine (nat_DivMod_in _ _ _ _ _ ((HA.out.alloc _).on HB1.out) HG.out).mono ?_
  rintro e w2 ⟨v2, v2r, rfl, h2, _, hb2⟩
  rw [D1.out] at h2
  obtain ⟨X, x, rfl, h2'⟩ := in_open h2
  have HX := Lib.hid h2'
  have HB2 := Lib.hid hb2
  have HC2 := Lib.hid (HC1.out.on hb2)
  clear h2 h2' hb2
  go_wp2_with fail
  refine (nat_DivMod_in _ _ _ _ _ (((HB.out.alloc _).on HB1.out).on HB2.out) (HG.out.on HB2.out)).mono ?_
  rintro e w3 ⟨v3, v3r, rfl, h3, _, hb3⟩
  rw [D2.out] at h3
  obtain ⟨Y, y, rfl, h3'⟩ := in_open h3
  have HY := Lib.hid h3'
  have HB3 := Lib.hid hb3
  have HC3 := Lib.hid (HC2.out.on hb3)
  clear h3 h3' hb3
  go_wp2_with fail
  refine (rat_signed b _ _ _ _ _ (HX.out.on HB3.out) HY.out).mono ?_
  rintro e w4 ⟨v4, rfl, h4, hb4⟩
  obtain ⟨vp, vq, rfl, h4p, h4q⟩ := h4
  obtain ⟨P, x4, rfl, h4p'⟩ := in_open h4p
  obtain ⟨Q, y4, rfl, h4q'⟩ := in_open h4q
  have HP := Lib.hid h4p'
  have HQ := Lib.hid h4q'
  have HB4 := Lib.hid hb4
  have HC4 := HC3.out.on hb4
  have HC4' := Lib.hid HC4
  have HR := Lib.hid (HC4.put3 (.bool (b && !(limbs (p / Nat.gcd p q)).isEmpty)) (.slice P (limbs (p / Nat.gcd p q)).length x4) (.slice Q (limbs (q / Nat.gcd p q)).length y4))
  obtain ⟨⟨c0, c1, c2⟩, f0, f1, f2⟩ := HC4
  clear h4p h4q h4p' h4q' hb4
  go_wp2_with fail
  obtain ⟨⟨r0, r1, r2⟩, -⟩ := HR.out
  refine bodyPost_ret (v := .agg #[.bool (b && !(limbs (p / Nat.gcd p q)).isEmpty), .slice P (limbs (p / Nat.gcd p q)).length x4, .slice Q (limbs (q / Nat.gcd p q)).length y4]) (by simp only [put3] at r0 r1 r2; simp [results, Try.results41, go_sem, r0, r1, r2]) rfl ?_
  refine ⟨_, rfl, ⟨_, _, by rw [FF.out.1], ?_, ?_⟩, ?_⟩
  · rw [FF.out.2.1]; exact HP.out.put3 HC4'.out _ _ _
  · rw [FF.out.2.2]; exact HQ.out.put3 HC4'.out _ _ _
  · exact below_put3 (bstep (bstep (bstep ((below_alloc _ _).trans (HB1.out.mono (by simp))) HB2.out) HB3.out) HB4.out) (Nat.le_refl _) _ _ _
end Go.Proofs.Ytagjimdplmimoaa
/- Contracts of Reduce of the reference, products, signedSum, plus. -/
namespace Go.Proofs.Ytagjimdplmimoaa
open Go.ChangeShapes Go.WideShapes Go.RowKit
set_option linter.unusedVariables false
set_option maxRecDepth 100000

def okE (b : Bool) : Int := if b then 0 else 2
def okL (b : Bool) (n : Nat) : List Int := if b then limbs n else []
theorem mulE_limbs {p q : Nat} (hp : p < big48) (hq : q < big48) : mulE (limbs p) (limbs q) = okE (decide (p * q < big48)) ∧ limbs (mulV (limbs p) (limbs q)) = okL (decide (p * q < big48)) (p * q) := by
  have e : (nval (limbs p) * nval (limbs q)).toNat = p * q := by rw [nval_limbs, nval_limbs, ← Int.natCast_mul]; exact Int.toNat_natCast _
  rw [mulE, mulV, both48 hp hq, if_pos rfl, if_pos rfl, e]
  by_cases h : p * q < big48
  · rw [decide_eq_true h]; exact ⟨if_pos h, by rw [show fitN (p * q) = p * q from if_pos h]; rfl⟩
  · rw [decide_eq_false h]; exact ⟨if_neg h, by rw [show fitN (p * q) = 0 from if_neg h, limbs_zero]; rfl⟩
theorem addE_limbs {p q : Nat} (hp : p < big48) (hq : q < big48) : addE (limbs p) (limbs q) = okE (decide (p + q < big48)) ∧ limbs (addV (limbs p) (limbs q)) = okL (decide (p + q < big48)) (p + q) := by
  have e : (nval (limbs p) + nval (limbs q)).toNat = p + q := by rw [nval_limbs, nval_limbs]; omega
  rw [addE, addV, both48 hp hq, if_pos rfl, if_pos rfl, e]
  by_cases h : p + q < big48
  · rw [decide_eq_true h]; exact ⟨if_pos h, by rw [show fitN (p + q) = p + q from if_pos h]; rfl⟩
  · rw [decide_eq_false h]; exact ⟨if_neg h, by rw [show fitN (p + q) = 0 from if_neg h, limbs_zero]; rfl⟩
theorem subE_limbs {p q : Nat} (hp : p < big48) (hq : q < big48) (h : q ≤ p) : subE (limbs p) (limbs q) = 0 ∧ limbs (subV (limbs p) (limbs q)) = limbs (p - q) := by
  have e : (nval (limbs p) - nval (limbs q)).toNat = p - q := by rw [nval_limbs, nval_limbs]; omega
  have e2 : ¬ nval (limbs p) < nval (limbs q) := by rw [nval_limbs, nval_limbs]; omega
  have h3 : p - q < 1000000000 ^ 48 := Nat.lt_of_le_of_lt (Nat.sub_le _ _) hp
  rw [subE, subV, both48 hp hq, if_pos rfl, if_pos rfl, if_neg e2, if_neg e2, e]
  exact ⟨if_pos h3, by rw [show fitN (p - q) = p - q from if_pos h3]⟩
theorem cmpV_limbs {p q : Nat} (hp : p < big48) (hq : q < big48) : cmpV (limbs p) (limbs q) = cmpI p q := by rw [cmpV, both48 hp hq, if_pos rfl, nval_limbs, nval_limbs]

theorem nat_Mul_in (p q : Nat) (va vb : Value) (w : World) (ha : In w va (limbs p)) (hb : In w vb (limbs q)) (hp : p < big48) (hq : q < big48) :
    Calls Try.prog 75 #[va, vb] w (fun e w' => ∃ v, e = .returned (.tuple #[v, .int .i64 (okE (decide (p * q < big48)))]) ∧ Sl w' w.heap.size w'.heap.size v (okL (decide (p * q < big48)) (p * q)) ∧ Below w.heap.size w w') := by
  refine (nat_Mul _ _ _ _ w ha hb).mono ?_
  rintro e w' ⟨v, rfl, h2, h3⟩
  obtain ⟨e1, e2⟩ := mulE_limbs hp hq
  exact ⟨v, by rw [e1], by rw [← e2]; exact h2, h3⟩
def prOk (a b c d : Nat) : Bool := decide (a * b < big48) && decide (c * d < big48)
set_option maxHeartbeats 800000 in
theorem rat_products (a b c d : Nat) (va vb vc vd : Value) (w : World) (ha : In w va (limbs a)) (hb : In w vb (limbs b)) (hc : In w vc (limbs c)) (hd : In w vd (limbs d)) (h1 : a < big48) (h2 : b < big48) (h3 : c < big48) (h4 : d < big48) :
    Calls Try.prog 59 #[va, vb, vc, vd] w (fun e w' => ∃ vp vq, e = .returned (.tuple #[vp, vq, .int .i64 (okE (prOk a b c d))]) ∧ Sl w' w.heap.size w'.heap.size vp (okL (prOk a b c d) (a * b)) ∧ Sl w' w.heap.size w'.heap.size vq (okL (prOk a b c d) (c * d)) ∧ Below w.heap.size w w') := by
  have HA := Lib.hid ha
  have HB := Lib.hid hb
  have HC := Lib.hid hc
  have HD := Lib.hid hd
  have M1 := Lib.hid (fun W h k => nat_Mul_in a b va vb W h k h1 h2)
  have M2 := Lib.hid (fun W h k => nat_Mul_in c d vc vd W h k h3 h4)
  clear ha hb hc hd h1 h2 h3 h4
  unfold prOk
  cases hab : decide (a * b < big48) with
  | false =>
    rw [hab] at M1
    go_enter Try.func59, Try.ntmps59
    go_wp2_with fail
    refine (M1.out w HA.out HB.out).mono ?_
    rintro e w1 ⟨v1, rfl, _, hb1⟩
    have HB1 := Lib.hid hb1
    clear hb1
    unfold okE
    go_wp2_with fail
    go_ret3
    exact ⟨_, _, rfl, Sl.nil _ _ _, Sl.nil _ _ _, HB1.out⟩
  | true =>
    rw [hab] at M1
    cases hcd : decide (c * d < big48) with
    | false =>
      rw [hcd] at M2
      go_enter Try.func59, Try.ntmps59
      go_wp2_with fail
      refine (M1.out w HA.out HB.out).mono ?_
      rintro e w1 ⟨v1, rfl, _, hb1⟩
      have HB1 := Lib.hid hb1
      clear hb1
      unfold okE
      go_wp2_with fail
      refine (M2.out w1 (HC.out.on HB1.out) (HD.out.on HB1.out)).mono ?_
      rintro e w2 ⟨v2, rfl, _, hb2⟩
      have HB2 := Lib.hid hb2
      clear hb2
      unfold okE
      go_wp2_with fail
      go_ret3
      exact ⟨_, _, rfl, Sl.nil _ _ _, Sl.nil _ _ _, bstep HB1.out HB2.out⟩
    | true =>
      rw [hcd] at M2
      go_enter Try.func59, Try.ntmps59
      go_wp2_with fail
      refine (M1.out w HA.out HB.out).mono ?_
      rintro e w1 ⟨v1, rfl, hv1, hb1⟩
      have HV1 := Lib.hid hv1
      have HB1 := Lib.hid hb1
      clear hb1 hv1
      unfold okE
      go_wp2_with fail
      refine (M2.out w1 (HC.out.on HB1.out) (HD.out.on HB1.out)).mono ?_
      rintro e w2 ⟨v2, rfl, hv2, hb2⟩
      have HV2 := Lib.hid hv2
      have HB2 := Lib.hid hb2
      clear hb2 hv2
      unfold okE
      go_wp2_with fail
      go_ret3
      exact ⟨_, _, rfl, (HV1.out.below HB2.out (Nat.le_refl _)).more (Nat.le_refl _) HB2.out.size, HV2.out.more HB1.out.size (Nat.le_refl _), bstep HB1.out HB2.out⟩
end Go.Proofs.Ytagjimdplmimoaa
/- Contracts of signedSum, plus (of the reference), Valid of both, times. -/
namespace Go.Proofs.Ytagjimdplmimoaa
open Go.ChangeShapes Go.WideShapes Go.RowKit
set_option linter.unusedVariables false
set_option maxRecDepth 100000

/-- A sum with signs fits. -/
def ssOk (m : Bool) (x : Nat) (n : Bool) (y : Nat) : Bool := (m != n) || decide (x + y < big48)
def SsRes (w : World) (m : Bool) (x : Nat) (n : Bool) (y : Nat) (e : Ending) (w' : World) : Prop :=
  ∃ v, e = .returned (.tuple #[.bool (sNeg m x n y), v, .int .i64 (okE (ssOk m x n y))]) ∧ Sl w' w.heap.size w'.heap.size v (okL (ssOk m x n y) (sMag m x n y)) ∧ Below w.heap.size w w'
theorem beq_of_ne {m n : Bool} (h : m ≠ n) : (m == n) = false := by cases m <;> cases n <;> simp at h ⊢

end Go.Proofs.Ytagjimdplmimoaa
/- Contracts of Valid, of rat and of its reference. -/
namespace Go.Proofs.Ytagjimdplmimoaa
open Go.ChangeShapes Go.WideShapes Go.RowKit
set_option linter.unusedVariables false
set_option maxRecDepth 100000

theorem limbs_one : limbs 1 = [1] := by rw [limbs_pos (by decide), limbs]; rfl
theorem limbs_is_one (n : Nat) : decide (limbs n = [1]) = gcd1 n := by
  unfold gcd1
  by_cases h : n = 1
  · subst h; rw [limbs_one]; rfl
  · rw [decide_eq_false h, decide_eq_false]; intro e; rw [← limbs_one] at e; exact h (limbs_inj e)
theorem valR_no {b : Bool} {xs ys : List Int} (h : both xs ys = false) : valR b xs ys = false := by unfold valR; rw [show (validB xs && validB ys) = both xs ys from rfl, h]; rfl
theorem valR_yes {b : Bool} {xs ys : List Int} (h : both xs ys = true) : valR b xs ys = (!ys.isEmpty && (gcd1 (Nat.gcd (nval xs).toNat (nval ys).toNat) && !(b && xs.isEmpty))) := by unfold valR; rw [show (validB xs && validB ys) = both xs ys from rfl, h]; rfl
theorem emp_len (xs : List Int) : xs.isEmpty = decide (xs.length = 0) := by cases xs <;> simp

set_option maxHeartbeats 1600000 in
theorem rat_Valid (v : Value) (b : Bool) (xs ys : List Int) (w : World) (ha : InR w v b xs ys) :
    Calls Try.prog 42 #[v] w fun e w' => e = .returned (.bool (valR b xs ys)) ∧ Below w.heap.size w w' := by
  obtain ⟨vp, vq, rfl, ha, hb⟩ := ha
  obtain ⟨A, c, rfl, ha'⟩ := in_open ha
  obtain ⟨B, d, rfl, hb'⟩ := in_open hb
  have HA := Lib.hid ha'
  have HB := Lib.hid hb'
  have HC := Lib.hid (Cel.new w (.bool b) (.slice A xs.length c) (.slice B ys.length d) 46)
  have hm2 : ys.length ≤ 9223372036854775807 := by obtain ⟨_, _, e, h1, h2, _⟩ := hb'; cases e; exact Nat.le_trans h1 h2
  have PG := Lib.hid (fun W h k => nat_Gcd_in xs ys (.slice A xs.length c) (.slice B ys.length d) W h k)
  clear ha hb ha' hb'
  cases hbo : both xs ys with
  | false =>
    have HV := Lib.hid (valR_no (b := b) hbo)
    have e1 : formE xs ys = 3 := by rw [formE, hbo]; rfl
    rw [e1] at PG
    clear hbo e1
    go_enter Try.func42, Try.ntmps42
    go_wp2_with fail
    refine (PG.out _ (HA.out.alloc _) (HB.out.alloc _)).mono ?_
    rintro e w1 ⟨v1, rfl, _, hb1⟩
    have HB1 := Lib.hid hb1
    clear hb1
    go_wp2_with fail
    go_ret
    exact ⟨by rw [HV.out]; rfl, (below_alloc _ _).trans (HB1.out.mono (by simp))⟩
  | true =>
    have HV := Lib.hid (valR_yes (b := b) hbo)
    have e1 : formE xs ys = 0 := by rw [formE, hbo]; rfl
    have e2 : gcdN xs ys = Nat.gcd (nval xs).toNat (nval ys).toNat := by rw [gcdN, hbo]; rfl
    rw [e1, e2] at PG
    obtain ⟨G, hG⟩ : ∃ G, G = Nat.gcd (nval xs).toNat (nval ys).toNat := ⟨_, rfl⟩
    rw [← hG] at PG HV
    clear hbo e1 e2 hG
    cases hg1 : gcd1 G with
    | false =>
      have HV2 : Hid (valR b xs ys = false) := by rw [Hid, HV.out, hg1]; cases ys.isEmpty <;> rfl
      have HG1 := Lib.hid hg1
      clear hg1
      go_enter Try.func42, Try.ntmps42
      go_wp2_with fail
      refine (PG.out _ (HA.out.alloc _) (HB.out.alloc _)).mono ?_
      rintro e w1 ⟨v1, rfl, h1, hb1⟩
      have HI := Lib.hid h1
      have HB1 := Lib.hid hb1
      clear hb1 h1
      go_wp2_with fail
      refine (rat_isOne _ _ _ HI.out).mono ?_
      rw [limbs_is_one, HG1.out]
      rintro e w2 ⟨rfl, hb2⟩
      have HB2 := Lib.hid hb2
      clear hb2
      go_wp2_with fail
      go_ret
      exact ⟨by rw [HV2.out]; rfl, bstep ((below_alloc _ _).trans (HB1.out.mono (by simp))) HB2.out⟩
    | true =>
      rw [hg1] at HV
      have HG1 := Lib.hid hg1
      clear hg1
      rcases Nat.eq_zero_or_pos ys.length with h0 | hp
      · have HV2 : Hid (valR b xs ys = false) := by rw [Hid, HV.out, emp_len, h0]; rfl
        have hn : ys = [] := List.eq_nil_of_length_eq_zero h0
        subst hn
        clear h0
        go_enter Try.func42, Try.ntmps42
        go_wp2_with fail
        refine (PG.out _ (HA.out.alloc _) (HB.out.alloc _)).mono ?_
        rintro e w1 ⟨v1, rfl, h1, hb1⟩
        have HI := Lib.hid h1
        have HC1 := Lib.hid (HC.out.on hb1)
        have HB1 := Lib.hid hb1
        clear hb1 h1
        go_wp2_with fail
        refine (rat_isOne _ _ _ HI.out).mono ?_
        rw [limbs_is_one, HG1.out]
        rintro e w2 ⟨rfl, hb2⟩
        obtain ⟨⟨c0, c1, c2⟩, -⟩ := HC1.out.on hb2
        have HB2 := Lib.hid hb2
        clear hb2
        go_wp2_with fail
        go_ret
        exact ⟨by rw [HV2.out]; rfl, bstep ((below_alloc _ _).trans (HB1.out.mono (by simp))) HB2.out⟩
      · have hpi : (0 : Int) < ys.length := by omega
        have hye : ys.isEmpty = false := by rw [emp_len]; exact decide_eq_false (by omega)
        have HV2 : Hid (valR b xs ys = !(b && xs.isEmpty)) := by rw [Hid, HV.out, hye]; rfl
        clear hye
        cases b with
        | false =>
          go_enter Try.func42, Try.ntmps42
          go_wp2_with fail
          refine (PG.out _ (HA.out.alloc _) (HB.out.alloc _)).mono ?_
          rintro e w1 ⟨v1, rfl, h1, hb1⟩
          have HI := Lib.hid h1
          have HC1 := Lib.hid (HC.out.on hb1)
          have HB1 := Lib.hid hb1
          clear hb1 h1
          go_wp2_with fail
          refine (rat_isOne _ _ _ HI.out).mono ?_
          rw [limbs_is_one, HG1.out]
          rintro e w2 ⟨rfl, hb2⟩
          obtain ⟨⟨c0, c1, c2⟩, -⟩ := HC1.out.on hb2
          have HB2 := Lib.hid hb2
          clear hb2
          go_wp2_with fail
          go_ret
          exact ⟨by rw [HV2.out]; rfl, bstep ((below_alloc _ _).trans (HB1.out.mono (by simp))) HB2.out⟩
        | true =>
          go_enter Try.func42, Try.ntmps42
          go_wp2_with fail
          refine (PG.out _ (HA.out.alloc _) (HB.out.alloc _)).mono ?_
          rintro e w1 ⟨v1, rfl, h1, hb1⟩
          have HI := Lib.hid h1
          have HC1 := Lib.hid (HC.out.on hb1)
          have HB1 := Lib.hid hb1
          clear hb1 h1
          go_wp2_with fail
          refine (rat_isOne _ _ _ HI.out).mono ?_
          rw [limbs_is_one, HG1.out]
          rintro e w2 ⟨rfl, hb2⟩
          obtain ⟨⟨c0, c1, c2⟩, -⟩ := HC1.out.on hb2
          have HB2 := Lib.hid hb2
          clear hb2
          go_wp2_with fail
          refine (rat_isZero _ true xs ys _ ⟨_, _, rfl, ((HA.out.alloc _).on HB1.out).on HB2.out, ((HB.out.alloc _).on HB1.out).on HB2.out⟩).mono ?_
          rintro e w3 ⟨rfl, hb3⟩
          have HB3 := Lib.hid hb3
          clear hb3
          go_wp2_with fail
          go_ret
          exact ⟨by rw [HV2.out]; rfl, bstep (bstep ((below_alloc _ _).trans (HB1.out.mono (by simp))) HB2.out) HB3.out⟩
end Go.Proofs.Ytagjimdplmimoaa
/- The contract of Valid of the reference. -/
namespace Go.Proofs.Ytagjimdplmimoaa
open Go.ChangeShapes Go.WideShapes Go.RowKit
set_option linter.unusedVariables false
set_option maxRecDepth 100000

end Go.Proofs.Ytagjimdplmimoaa
/- The three steps of rat.sum: closures over its variables. -/
namespace Go.Proofs.Ytagjimdplmimoaa
open Go.ChangeShapes Go.WideShapes Go.RowKit
set_option linter.unusedVariables false
set_option maxRecDepth 100000

/-- A variable in a block of its own. -/
def One (w : World) (g : Nat) (u : Value) : Prop := w.cell? ⟨g, 0, none⟩ = some u ∧ w.frozen? ⟨g, 0, none⟩ = false
theorem One.lt {w : World} {g : Nat} {u : Value} (h : One w g u) : g < w.heap.size := World.block_lt_of_cell? w _ h.1
theorem One.below {w w' : World} {B g : Nat} {u : Value} (h : One w g u) (hb : Below B w w') (hg : g < B) : One w' g u :=
  ⟨(hb.cell (p := ⟨g, 0, none⟩) hg).trans h.1, (hb.frozen (p := ⟨g, 0, none⟩) hg).trans h.2⟩
theorem One.on {w w' : World} {g : Nat} {u : Value} (h : One w g u) (hb : Below w.heap.size w w') : One w' g u := h.below hb h.lt
theorem One.alloc {w : World} {g : Nat} {u : Value} (h : One w g u) (o : Obj) : One (w.alloc o) g u := h.on (below_alloc w o)
theorem One.new (w : World) (u : Value) (t : TypeId) : One (w.alloc (.cells #[u] t)) w.heap.size u := by
  have hb := heap_alloc_new w (.cells #[u] t)
  exact ⟨by rw [cell_of_row _ _ _ _ _ _ hb]; rfl, frozen_of hb _⟩
theorem One.set {w : World} {g : Nat} {u : Value} (h : One w g u) (v : Value) : One (w.setCell ⟨g, 0, none⟩ v) g v := ⟨set_same h.1 v, by simpa using h.2⟩
theorem One.other {w : World} {g : Nat} {u : Value} (h : One w g u) {p : Addr} (hp : p.block ≠ g) (v : Value) : One (w.setCell p v) g u :=
  ⟨(World.cell?_setCell_other w p _ v (fun e => hp (by rw [e]))).trans h.1, by simpa using h.2⟩
theorem Cel.other {w : World} {g : Nat} {u0 u1 u2 : Value} (h : Cel w g u0 u1 u2) {p : Addr} (hp : p.block ≠ g) (v : Value) : Cel (w.setCell p v) g u0 u1 u2 := by
  obtain ⟨⟨h0, h1, h2⟩, f0, f1, f2⟩ := h
  have k : ∀ i, (w.setCell p v).cell? ⟨g, i, none⟩ = w.cell? ⟨g, i, none⟩ := fun i => World.cell?_setCell_other w p _ v (fun e => hp (by rw [e]))
  exact ⟨⟨(k 0).trans h0, (k 1).trans h1, (k 2).trans h2⟩, by simpa using f0, by simpa using f1, by simpa using f2⟩
theorem Sl.set {w : World} {lo hi : Nat} {v : Value} {zs : List Int} (h : Sl w lo hi v zs) {p : Addr} (hp : p.block < lo ∨ hi ≤ p.block) (x : Value) : Sl (w.setCell p x) lo hi v zs := by
  obtain ⟨A, c, rfl, h1, h2, h3⟩ := h
  exact ⟨A, c, rfl, h1, h2, h3.keep fun k hk1 hk2 => Below.heap_setCell w p x k (fun e => by omega)⟩
def ptr (g : Nat) : Value := .pointer (some ⟨g, 0, none⟩)

end Go.Proofs.Ytagjimdplmimoaa
/- The contract of rat.sum. -/
namespace Go.Proofs.Ytagjimdplmimoaa
open Go.ChangeShapes Go.WideShapes Go.RowKit
set_option linter.unusedVariables false
set_option maxRecDepth 100000

theorem sumOk_eq (r s : Rat) : sumOk r s = (prOk r.num.natAbs s.den s.num.natAbs r.den && (decide (r.den * s.den < big48) && ssOk (negR r) (r.num.natAbs * s.den) (negR s) (s.num.natAbs * r.den))) := by
  unfold sumOk prOk ssOk; rw [Bool.and_assoc]

/-- The variables of rat.sum: ten blocks from B on. -/
def Fr (W : World) (B : Nat) (a0 a1 a2 b0 b1 b2 x y p q n e f1 f2 f3 : Value) : Prop :=
  (Cel W B a0 a1 a2 ∧ Cel W (B + 1) b0 b1 b2 ∧ Cel W (B + 2) (.bool false) (.slice none 0 0) (.slice none 0 0)) ∧ (One W (B + 3) x ∧ One W (B + 4) y ∧ One W (B + 5) p ∧ One W (B + 6) q ∧ One W (B + 7) n ∧ One W (B + 8) e) ∧ Cel W (B + 9) f1 f2 f3
section
variable {w W w' : World} {B : Nat} {a0 a1 a2 b0 b1 b2 x y p q n e f1 f2 f3 : Value}
theorem Fr.on (h : Fr W B a0 a1 a2 b0 b1 b2 x y p q n e f1 f2 f3) (hb : Below W.heap.size W w') : Fr w' B a0 a1 a2 b0 b1 b2 x y p q n e f1 f2 f3 := by
  obtain ⟨⟨h1, h2, h3⟩, ⟨g1, g2, g3, g4, g5, g6⟩, h4⟩ := h
  exact ⟨⟨h1.on hb, h2.on hb, h3.on hb⟩, ⟨g1.on hb, g2.on hb, g3.on hb, g4.on hb, g5.on hb, g6.on hb⟩, h4.on hb⟩
theorem Fr.set_x (h : Fr W B a0 a1 a2 b0 b1 b2 x y p q n e f1 f2 f3) (v : Value) : Fr (W.setCell ⟨B + 3, 0, none⟩ v) B a0 a1 a2 b0 b1 b2 v y p q n e f1 f2 f3 := by
  obtain ⟨⟨h1, h2, h3⟩, ⟨g1, g2, g3, g4, g5, g6⟩, h4⟩ := h
  exact ⟨⟨h1.other (by show B + 3 ≠ B; omega) v, h2.other (by show B + 3 ≠ B + 1; omega) v, h3.other (by show B + 3 ≠ B + 2; omega) v⟩, ⟨g1.set v, g2.other (by show B + 3 ≠ B + 4; omega) v, g3.other (by show B + 3 ≠ B + 5; omega) v, g4.other (by show B + 3 ≠ B + 6; omega) v, g5.other (by show B + 3 ≠ B + 7; omega) v, g6.other (by show B + 3 ≠ B + 8; omega) v⟩, h4.other (by show B + 3 ≠ B + 9; omega) v⟩
theorem Fr.set_y (h : Fr W B a0 a1 a2 b0 b1 b2 x y p q n e f1 f2 f3) (v : Value) : Fr (W.setCell ⟨B + 4, 0, none⟩ v) B a0 a1 a2 b0 b1 b2 x v p q n e f1 f2 f3 := by
  obtain ⟨⟨h1, h2, h3⟩, ⟨g1, g2, g3, g4, g5, g6⟩, h4⟩ := h
  exact ⟨⟨h1.other (by show B + 4 ≠ B; omega) v, h2.other (by show B + 4 ≠ B + 1; omega) v, h3.other (by show B + 4 ≠ B + 2; omega) v⟩, ⟨g1.other (by show B + 4 ≠ B + 3; omega) v, g2.set v, g3.other (by show B + 4 ≠ B + 5; omega) v, g4.other (by show B + 4 ≠ B + 6; omega) v, g5.other (by show B + 4 ≠ B + 7; omega) v, g6.other (by show B + 4 ≠ B + 8; omega) v⟩, h4.other (by show B + 4 ≠ B + 9; omega) v⟩
theorem Fr.set_p (h : Fr W B a0 a1 a2 b0 b1 b2 x y p q n e f1 f2 f3) (v : Value) : Fr (W.setCell ⟨B + 5, 0, none⟩ v) B a0 a1 a2 b0 b1 b2 x y v q n e f1 f2 f3 := by
  obtain ⟨⟨h1, h2, h3⟩, ⟨g1, g2, g3, g4, g5, g6⟩, h4⟩ := h
  exact ⟨⟨h1.other (by show B + 5 ≠ B; omega) v, h2.other (by show B + 5 ≠ B + 1; omega) v, h3.other (by show B + 5 ≠ B + 2; omega) v⟩, ⟨g1.other (by show B + 5 ≠ B + 3; omega) v, g2.other (by show B + 5 ≠ B + 4; omega) v, g3.set v, g4.other (by show B + 5 ≠ B + 6; omega) v, g5.other (by show B + 5 ≠ B + 7; omega) v, g6.other (by show B + 5 ≠ B + 8; omega) v⟩, h4.other (by show B + 5 ≠ B + 9; omega) v⟩
theorem Fr.set_q (h : Fr W B a0 a1 a2 b0 b1 b2 x y p q n e f1 f2 f3) (v : Value) : Fr (W.setCell ⟨B + 6, 0, none⟩ v) B a0 a1 a2 b0 b1 b2 x y p v n e f1 f2 f3 := by
  obtain ⟨⟨h1, h2, h3⟩, ⟨g1, g2, g3, g4, g5, g6⟩, h4⟩ := h
  exact ⟨⟨h1.other (by show B + 6 ≠ B; omega) v, h2.other (by show B + 6 ≠ B + 1; omega) v, h3.other (by show B + 6 ≠ B + 2; omega) v⟩, ⟨g1.other (by show B + 6 ≠ B + 3; omega) v, g2.other (by show B + 6 ≠ B + 4; omega) v, g3.other (by show B + 6 ≠ B + 5; omega) v, g4.set v, g5.other (by show B + 6 ≠ B + 7; omega) v, g6.other (by show B + 6 ≠ B + 8; omega) v⟩, h4.other (by show B + 6 ≠ B + 9; omega) v⟩
theorem Fr.set_n (h : Fr W B a0 a1 a2 b0 b1 b2 x y p q n e f1 f2 f3) (v : Value) : Fr (W.setCell ⟨B + 7, 0, none⟩ v) B a0 a1 a2 b0 b1 b2 x y p q v e f1 f2 f3 := by
  obtain ⟨⟨h1, h2, h3⟩, ⟨g1, g2, g3, g4, g5, g6⟩, h4⟩ := h
  exact ⟨⟨h1.other (by show B + 7 ≠ B; omega) v, h2.other (by show B + 7 ≠ B + 1; omega) v, h3.other (by show B + 7 ≠ B + 2; omega) v⟩, ⟨g1.other (by show B + 7 ≠ B + 3; omega) v, g2.other (by show B + 7 ≠ B + 4; omega) v, g3.other (by show B + 7 ≠ B + 5; omega) v, g4.other (by show B + 7 ≠ B + 6; omega) v, g5.set v, g6.other (by show B + 7 ≠ B + 8; omega) v⟩, h4.other (by show B + 7 ≠ B + 9; omega) v⟩
theorem Fr.set_e (h : Fr W B a0 a1 a2 b0 b1 b2 x y p q n e f1 f2 f3) (v : Value) : Fr (W.setCell ⟨B + 8, 0, none⟩ v) B a0 a1 a2 b0 b1 b2 x y p q n v f1 f2 f3 := by
  obtain ⟨⟨h1, h2, h3⟩, ⟨g1, g2, g3, g4, g5, g6⟩, h4⟩ := h
  exact ⟨⟨h1.other (by show B + 8 ≠ B; omega) v, h2.other (by show B + 8 ≠ B + 1; omega) v, h3.other (by show B + 8 ≠ B + 2; omega) v⟩, ⟨g1.other (by show B + 8 ≠ B + 3; omega) v, g2.other (by show B + 8 ≠ B + 4; omega) v, g3.other (by show B + 8 ≠ B + 5; omega) v, g4.other (by show B + 8 ≠ B + 6; omega) v, g5.other (by show B + 8 ≠ B + 7; omega) v, g6.set v⟩, h4.other (by show B + 8 ≠ B + 9; omega) v⟩
/-- What lies behind the variables stays. -/
def Keep (W w' : World) (lo : Nat) : Prop := W.heap.size ≤ w'.heap.size ∧ ∀ v zs, Sl W lo W.heap.size v zs → Sl w' lo w'.heap.size v zs
theorem Keep.below {lo : Nat} (hb : Below W.heap.size W w') : Keep W w' lo := ⟨hb.size, fun v zs h => (h.below hb (Nat.le_refl _)).more (Nat.le_refl _) hb.size⟩
theorem Keep.set {lo : Nat} (h : Keep W w' lo) {a : Addr} (ha : a.block < lo) (v : Value) : Keep W (w'.setCell a v) lo :=
  ⟨by simpa using h.1, fun u zs hu => by simpa using (h.2 u zs hu).set (Or.inl ha) v⟩
theorem sl_size {lo : Nat} {v : Value} {zs : List Int} {a : Addr} {u : Value} (h : Sl W lo W.heap.size v zs) (ha : a.block < lo) : Sl (W.setCell a u) lo (W.setCell a u).heap.size v zs := by
  simpa using h.set (Or.inl ha) u
theorem below_set {a : Addr} (h : Below B w W) (ha : B ≤ a.block) (v : Value) : Below B w (W.setCell a v) := h.setCell ha v
end

/-- The world in which the steps begin. -/
theorem sum_start (w : World) (a0 a1 a2 b0 b1 b2 f1 f2 f3 : Value) (t1 t2 t3 t4 t5 : TypeId) :
    Fr ((((((((((w.alloc (.cells #[a0, a1, a2] t1)).alloc (.cells #[b0, b1, b2] t1)).alloc (.cells #[.bool false, .slice none 0 0, .slice none 0 0] t1)).alloc (.cells #[.slice none 0 0] t2)).alloc (.cells #[.slice none 0 0] t2)).alloc (.cells #[.slice none 0 0] t2)).alloc (.cells #[.slice none 0 0] t2)).alloc (.cells #[.bool false] t3)).alloc (.cells #[.int .i64 0] t4)).alloc (.cells #[f1, f2, f3] t5))
      w.heap.size a0 a1 a2 b0 b1 b2 (.slice none 0 0) (.slice none 0 0) (.slice none 0 0) (.slice none 0 0) (.bool false) (.int .i64 0) f1 f2 f3 := by
  have cn : ∀ (W : World) (u0 u1 u2 : Value) (t : TypeId) (g : Nat), g = W.heap.size → Cel (W.alloc (.cells #[u0, u1, u2] t)) g u0 u1 u2 := fun W u0 u1 u2 t g h => h ▸ Cel.new W u0 u1 u2 t
  have on : ∀ (W : World) (u : Value) (t : TypeId) (g : Nat), g = W.heap.size → One (W.alloc (.cells #[u] t)) g u := fun W u t g h => h ▸ One.new W u t
  refine ⟨⟨?_, ?_, ?_⟩, ⟨?_, ?_, ?_, ?_, ?_, ?_⟩, ?_⟩
  · exact (((((((((cn _ _ _ _ _ _ rfl).alloc _).alloc _).alloc _).alloc _).alloc _).alloc _).alloc _).alloc _).alloc _
  · exact ((((((((cn _ _ _ _ _ _ (by simp)).alloc _).alloc _).alloc _).alloc _).alloc _).alloc _).alloc _).alloc _
  · exact (((((((cn _ _ _ _ _ _ (by simp)).alloc _).alloc _).alloc _).alloc _).alloc _).alloc _).alloc _
  · exact ((((((on _ _ _ _ (by simp)).alloc _).alloc _).alloc _).alloc _).alloc _).alloc _
  · exact (((((on _ _ _ _ (by simp)).alloc _).alloc _).alloc _).alloc _).alloc _
  · exact ((((on _ _ _ _ (by simp)).alloc _).alloc _).alloc _).alloc _
  · exact (((on _ _ _ _ (by simp)).alloc _).alloc _).alloc _
  · exact ((on _ _ _ _ (by simp)).alloc _).alloc _
  · exact (on _ _ _ _ (by simp)).alloc _
  · exact cn _ _ _ _ _ _ (by simp)

section
variable {w W : World} {B : Nat} {r s : Rat} {va0 va1 va2 vb0 vb1 vb2 x y p q n e f1 f2 f3 : Value}
end
end Go.Proofs.Ytagjimdplmimoaa
/- The contract of rat.sum. -/
namespace Go.Proofs.Ytagjimdplmimoaa
open Go.ChangeShapes Go.WideShapes Go.RowKit
set_option linter.unusedVariables false
set_option maxRecDepth 100000

theorem sMag_lt {m n : Bool} {x y : Nat} (hx : x < big48) (hy : y < big48) (h : ssOk m x n y = true) : sMag m x n y < big48 := by
  unfold sMag ssOk at *
  by_cases hmn : m = n
  · subst hmn
    rw [if_pos rfl]
    have : (m != m) = false := by cases m <;> rfl
    rw [this, Bool.false_or] at h
    exact of_decide_eq_true h
  · rw [if_neg hmn]
    split <;> omega
theorem prOk_parts {a b c d : Nat} (h : prOk a b c d = true) : a * b < big48 ∧ c * d < big48 := by
  unfold prOk at h; simpa using h

end Go.Proofs.Ytagjimdplmimoaa
/- Contracts of rat.times, Add, Mul of rat; Add, Mul of the reference. -/
namespace Go.Proofs.Ytagjimdplmimoaa
open Go.ChangeShapes Go.WideShapes Go.RowKit
set_option linter.unusedVariables false
set_option maxRecDepth 100000

theorem mulOk_eq (r s : Rat) : mulOk r s = prOk r.num.natAbs s.num.natAbs r.den s.den := rfl
theorem bne_dec (m n : Bool) : (m != n) = !(m == n) := rfl

set_option maxHeartbeats 1600000 in
theorem rat_times_0 (r s : Rat) (hr : fitR r = true) (hs : fitR s = true) (v u : Value) (w : World) (hv : IsR w v r) (hu : IsR w u s) (ho : mulOk r s = false) :
    Calls Try.prog 43 #[v, u] w (RRes w (okE (mulOk r s)) (r * s)) := by
  obtain ⟨vp, vq, rfl, h1, h2⟩ := hv
  obtain ⟨up, uq, rfl, h3, h4⟩ := hu
  obtain ⟨A1, c1, rfl, h1'⟩ := in_open h1
  obtain ⟨A2, c2, rfl, h2'⟩ := in_open h2
  obtain ⟨A3, c3, rfl, h3'⟩ := in_open h3
  obtain ⟨A4, c4, rfl, h4'⟩ := in_open h4
  rw [fitR_iff] at hr hs
  have PP := Lib.hid (fun W k1 k2 k3 k4 => rat_products r.num.natAbs s.num.natAbs r.den s.den (.slice A1 (topL r).length c1) (.slice A3 (topL s).length c3) (.slice A2 (botL r).length c2) (.slice A4 (botL s).length c4) W k1 k2 k3 k4 hr.1 hs.1 hr.2 hs.2)
  rw [← mulOk_eq, ho] at PP
  have H1 := Lib.hid h1'
  have H2 := Lib.hid h2'
  have H3 := Lib.hid h3'
  have H4 := Lib.hid h4'
  have HO := Lib.hid ho
  have HC := Lib.hid (Cel.new ((w.alloc (.cells #[.bool (negR r), .slice A1 (topL r).length c1, .slice A2 (botL r).length c2] 46)).alloc (.cells #[.bool (negR s), .slice A3 (topL s).length c3, .slice A4 (botL s).length c4] 46)) (.bool false) (.slice none 0 0) (.slice none 0 0) 46)
  have HCA := Lib.hid (((Cel.new w (.bool (negR r)) (.slice A1 (topL r).length c1) (.slice A2 (botL r).length c2) 46).alloc (.cells #[.bool (negR s), .slice A3 (topL s).length c3, .slice A4 (botL s).length c4] 46)).alloc (.cells #[.bool false, .slice none 0 0, .slice none 0 0] 46))
  have HCB := Lib.hid ((Cel.new (w.alloc (.cells #[.bool (negR r), .slice A1 (topL r).length c1, .slice A2 (botL r).length c2] 46)) (.bool (negR s)) (.slice A3 (topL s).length c3) (.slice A4 (botL s).length c4) 46).alloc (.cells #[.bool false, .slice none 0 0, .slice none 0 0] 46))
  simp only [World.size_alloc] at HC HCB
  clear h1 h2 h3 h4 h1' h2' h3' h4' hr hs ho
  go_enter Try.func43, Try.ntmps43
  go_wp2_with fail
  have hb0 : ∀ o1 o2 o3, Below w.heap.size w (((w.alloc o1).alloc o2).alloc o3) := fun _ _ _ => balloc (balloc (below_alloc _ _) _) _
  have hz0 : ∀ o1 o2 o3, (((w.alloc o1).alloc o2).alloc o3).heap.size = w.heap.size + 3 := fun _ _ _ => by simp
  refine (PP.out _ (H1.out.on (hb0 _ _ _)) (H3.out.on (hb0 _ _ _)) (H2.out.on (hb0 _ _ _)) (H4.out.on (hb0 _ _ _))).mono ?_
  rintro e w1 ⟨vp, vq, rfl, hp, hq, hb1⟩
  have hz1 : w.heap.size + 3 ≤ w1.heap.size := by have := hb1.size; rw [hz0] at this; exact this
  have HB1 : Hid (Below w.heap.size w w1) := (hb0 _ _ _).trans (hb1.mono (by rw [hz0]; omega))
  have HC1 := Lib.hid (HC.out.on hb1)
  obtain ⟨⟨r0, r1, r2⟩, s0, s1, s2⟩ : Cel w1 (w.heap.size + 1 + 1) (.bool false) (.slice none 0 0) (.slice none 0 0) := HC1.out
  clear hb0 hz0 hp hq hb1
  unfold okE
  go_wp2_with fail
  obtain ⟨⟨z0, z1, z2⟩, -⟩ := HC1.out.put3 (.bool false) (.slice none 0 0) (.slice none 0 0)
  simp only [put3] at z0 z1 z2
  refine bodyPost_ret (v := .tuple #[.agg #[.bool false, .slice none 0 0, .slice none 0 0], .int .i64 2]) (by simp [results, Try.results43, go_sem, z0, z1, z2]) rfl ?_
  rw [HO.out]
  exact ⟨_, rfl, OutR.no (by decide), below_put3 HB1.out (g := w.heap.size + 1 + 1) (by omega) _ _ _⟩

set_option maxHeartbeats 1600000 in
theorem rat_times_1 (r s : Rat) (hr : fitR r = true) (hs : fitR s = true) (v u : Value) (w : World) (hv : IsR w v r) (hu : IsR w u s) (ho : mulOk r s = true) :
    Calls Try.prog 43 #[v, u] w (RRes w (okE (mulOk r s)) (r * s)) := by
  obtain ⟨vp, vq, rfl, h1, h2⟩ := hv
  obtain ⟨up, uq, rfl, h3, h4⟩ := hu
  obtain ⟨A1, c1, rfl, h1'⟩ := in_open h1
  obtain ⟨A2, c2, rfl, h2'⟩ := in_open h2
  obtain ⟨A3, c3, rfl, h3'⟩ := in_open h3
  obtain ⟨A4, c4, rfl, h4'⟩ := in_open h4
  rw [fitR_iff] at hr hs
  have PP := Lib.hid (fun W k1 k2 k3 k4 => rat_products r.num.natAbs s.num.natAbs r.den s.den (.slice A1 (topL r).length c1) (.slice A3 (topL s).length c3) (.slice A2 (botL r).length c2) (.slice A4 (botL s).length c4) W k1 k2 k3 k4 hr.1 hs.1 hr.2 hs.2)
  rw [← mulOk_eq, ho] at PP
  have H1 := Lib.hid h1'
  have H2 := Lib.hid h2'
  have H3 := Lib.hid h3'
  have H4 := Lib.hid h4'
  have HO := Lib.hid ho
  have HC := Lib.hid (Cel.new ((w.alloc (.cells #[.bool (negR r), .slice A1 (topL r).length c1, .slice A2 (botL r).length c2] 46)).alloc (.cells #[.bool (negR s), .slice A3 (topL s).length c3, .slice A4 (botL s).length c4] 46)) (.bool false) (.slice none 0 0) (.slice none 0 0) 46)
  have HCA := Lib.hid (((Cel.new w (.bool (negR r)) (.slice A1 (topL r).length c1) (.slice A2 (botL r).length c2) 46).alloc (.cells #[.bool (negR s), .slice A3 (topL s).length c3, .slice A4 (botL s).length c4] 46)).alloc (.cells #[.bool false, .slice none 0 0, .slice none 0 0] 46))
  have HCB := Lib.hid ((Cel.new (w.alloc (.cells #[.bool (negR r), .slice A1 (topL r).length c1, .slice A2 (botL r).length c2] 46)) (.bool (negR s)) (.slice A3 (topL s).length c3) (.slice A4 (botL s).length c4) 46).alloc (.cells #[.bool false, .slice none 0 0, .slice none 0 0] 46))
  simp only [World.size_alloc] at HC HCB
  clear h1 h2 h3 h4 h1' h2' h3' h4' hr hs ho
  go_enter Try.func43, Try.ntmps43
  go_wp2_with fail
  have hb0 : ∀ o1 o2 o3, Below w.heap.size w (((w.alloc o1).alloc o2).alloc o3) := fun _ _ _ => balloc (balloc (below_alloc _ _) _) _
  have hz0 : ∀ o1 o2 o3, (((w.alloc o1).alloc o2).alloc o3).heap.size = w.heap.size + 3 := fun _ _ _ => by simp
  refine (PP.out _ (H1.out.on (hb0 _ _ _)) (H3.out.on (hb0 _ _ _)) (H2.out.on (hb0 _ _ _)) (H4.out.on (hb0 _ _ _))).mono ?_
  rintro e w1 ⟨vp, vq, rfl, hp, hq, hb1⟩
  have hz1 : w.heap.size + 3 ≤ w1.heap.size := by have := hb1.size; rw [hz0] at this; exact this
  have HB1 : Hid (Below w.heap.size w w1) := (hb0 _ _ _).trans (hb1.mono (by rw [hz0]; omega))
  have HC1 := Lib.hid (HC.out.on hb1)
  obtain ⟨⟨a0, -⟩, -⟩ : Cel w1 w.heap.size (.bool (negR r)) (.slice A1 (topL r).length c1) (.slice A2 (botL r).length c2) := HCA.out.on hb1
  obtain ⟨⟨b0, -⟩, -⟩ : Cel w1 (w.heap.size + 1) (.bool (negR s)) (.slice A3 (topL s).length c3) (.slice A4 (botL s).length c4) := HCB.out.on hb1
  have HP := Lib.hid hp.toIn
  have HQ := Lib.hid hq.toIn
  have HOP : Hid (prOk r.num.natAbs s.num.natAbs r.den s.den = true) := HO.out
  clear hb0 hz0 hp hq hb1
  unfold okE
  go_wp2_with fail
  refine (rat_reduced (negR r != negR s) _ _ _ _ w1 HP.out HQ.out (prOk_parts HOP.out).1 (prOk_parts HOP.out).2 (Nat.mul_ne_zero r.den_nz s.den_nz)).mono ?_
  rw [mul_form]
  rintro e w4 ⟨v4, rfl, h4, hb4⟩
  obtain ⟨vp4, vq4, rfl, h4p, h4q⟩ := h4
  obtain ⟨P4, x4, rfl, h4p'⟩ := in_open h4p
  obtain ⟨Q4, y4, rfl, h4q'⟩ := in_open h4q
  have HP4 := Lib.hid h4p'
  have HQ4 := Lib.hid h4q'
  have HB4 := Lib.hid hb4
  have HC4 := HC1.out.on hb4
  have HC4' := Lib.hid HC4
  have HRR := Lib.hid (HC4.put3 (.bool (negR (r * s))) (.slice P4 (topL (r * s)).length x4) (.slice Q4 (botL (r * s)).length y4))
  obtain ⟨⟨d0, d1, d2⟩, f0, f1, f2⟩ := HC4
  clear h4p h4q h4p' h4q' hb4
  go_wp2_with fail
  obtain ⟨⟨r0, r1, r2⟩, -⟩ := HRR.out
  refine bodyPost_ret (v := .tuple #[.agg #[.bool (negR (r * s)), .slice P4 (topL (r * s)).length x4, .slice Q4 (botL (r * s)).length y4], .int .i64 0]) (by simp only [put3] at r0 r1 r2; simp [results, Try.results43, go_sem, r0, r1, r2]) rfl ?_
  rw [HO.out]
  exact ⟨_, rfl, OutR.ok ⟨_, _, rfl, HP4.out.put3 HC4'.out _ _ _, HQ4.out.put3 HC4'.out _ _ _⟩, below_put3 (HB1.out.trans (HB4.out.mono (by omega))) (by omega) _ _ _⟩

theorem rat_times (r s : Rat) (hr : fitR r = true) (hs : fitR s = true) (v u : Value) (w : World) (hv : IsR w v r) (hu : IsR w u s) :
    Calls Try.prog 43 #[v, u] w (RRes w (okE (mulOk r s)) (r * s)) := by
  cases h : mulOk r s with
  | false => rw [← h]; exact rat_times_0 r s hr hs v u w hv hu h
  | true => rw [← h]; exact rat_times_1 r s hr hs v u w hv hu h
end Go.Proofs.Ytagjimdplmimoaa
