/- Several texts in one: RatB, NatZ5, RatC, RatD, RatE, RatF. -/
import Derived.Test.YtohfaoclemcfaaaPk7
import Derived.Deep.RegionWith
import Derived.Deep.RegionHeld3
import Derived.Test.YtohfaoclemcfaaaPk5
/- Small functions of rat and of its reference: isOne, isZero, inRange, limbs, Same, signed, negated. -/
namespace Go.Proofs.Ytohfaoclemcfaaa
open Go.ChangeShapes Go.WideShapes Go.RowKit
set_option linter.unusedVariables false
set_option maxRecDepth 100000

theorem bcell {W w1 : World} (hb : Below W.heap.size W w1) : (∀ b o, b < W.heap.size → w1.cell? ⟨b, o, none⟩ = W.cell? ⟨b, o, none⟩) ∧ (∀ b o, b < W.heap.size → w1.frozen? ⟨b, o, none⟩ = W.frozen? ⟨b, o, none⟩) :=
  ⟨fun b o h => hb.cell (p := ⟨b, o, none⟩) h, fun b o h => hb.frozen (p := ⟨b, o, none⟩) h⟩

set_option maxHeartbeats 800000 in
theorem ref_limbs (xs ys : List Int) (A B : Option Addr) (c d : Nat) (lo hi lo' hi' : Nat) (w : World) (hS : Holds w lo hi A xs) (hT : Holds w lo' hi' B ys) (hh : hi ≤ w.heap.size) (hh' : hi' ≤ w.heap.size)
    (hm : xs.length ≤ 9223372036854775807) (hm2 : ys.length ≤ 9223372036854775807) :
    Calls Try.prog 46 #[.slice A xs.length c, .slice B ys.length d] w fun e w' => e = .returned (.bool (decide (xs = ys))) ∧ Below w.heap.size w w' := by
  have HS := Lib.hid hS
  have HT := Lib.hid hT
  clear hS hT
  by_cases hl : xs.length = ys.length
  · go_enter Try.func46, Try.ntmps46
    rw [← hl]
    have HL := Lib.hid hl
    clear hl hm2
    go_wp2_with fail
    go_loopw [5] (fun i wr => ∃ k : Nat, k ≤ xs.length ∧ i = .int .i64 k ∧ xs.take k = ys.take k ∧ Below w.heap.size w wr) (fun i _ => xs.length - (intOf i).toNat)
    case atStart => exact ⟨0, Nat.zero_le _, rfl, rfl, Below.refl _ _⟩
    case round =>
      obtain ⟨k, hk, rfl, hz, hbel⟩ := hrel
      have HK := Lib.hid hz
      have HB := Lib.hid hbel
      clear hz hbel
      rcases Nat.lt_or_ge k xs.length with hlt | hge
      · obtain ⟨z, hz⟩ : ∃ z, xs[k]? = some z := ⟨_, List.getElem?_eq_getElem hlt⟩
        obtain ⟨y, hy⟩ : ∃ y, ys[k]? = some y := ⟨_, List.getElem?_eq_getElem (by have := HL.out; omega)⟩
        obtain ⟨b, off, rfl, _, _, hcell⟩ := (HS.out.below HB.out hh) k z hz
        obtain ⟨b2, off2, rfl, _, _, hcell2⟩ := (HT.out.below HB.out hh') k y hy
        have HZ := Lib.hid hz
        have HY := Lib.hid hy
        clear hz hy
        by_cases h0 : z = y
        · subst h0
          have hne : (z != z) = false := by simp
          go_wp2_with fail
          go_quiet (fail)
          go_wp2_with fail
          go_roundw
          case rel => exact ⟨k + 1, by omega, by go_num, by rw [trim_step HZ.out, trim_step HY.out, HK.out], below_drewN HB.out _⟩
          case measure => simp [intOf]; omega
        · have hne : (z != y) = true := by simpa using h0
          have hv : ¬ xs = ys := by
            rintro rfl; have h1 := HZ.out; rw [HY.out] at h1; cases h1; exact h0 rfl
          have HV := Lib.hid hv
          clear hv h0
          go_wp2_with fail
          go_quiet (fail)
          go_wp2_with fail
          go_ret
          rw [decide_eq_false HV.out]; exact ⟨rfl, below_drewN HB.out _⟩
      · obtain rfl : k = xs.length := by omega
        have HE := Lib.hid (same_end HL.out HK.out)
        go_wp2_with fail
        go_ret
        rw [decide_eq_true HE.out]; exact ⟨rfl, HB.out⟩
  · have hne : ((xs.length : Int) != (ys.length : Int)) = true := by simp; omega
    have hv : ¬ xs = ys := fun h => hl (congrArg _ h)
    have HV := Lib.hid hv
    clear hv hl
    go_enter Try.func46, Try.ntmps46
    go_wp2_with fail
    go_ret
    rw [decide_eq_false HV.out]; exact ⟨rfl, Below.refl _ _⟩

theorem limbs_in (xs ys : List Int) (va vb : Value) (w : World) (ha : In w va xs) (hb : In w vb ys) :
    Calls Try.prog 46 #[va, vb] w fun e w' => e = .returned (.bool (decide (xs = ys))) ∧ Below w.heap.size w w' := by
  obtain ⟨A, c, rfl, hc, hm, hA⟩ := ha
  obtain ⟨B, d, rfl, hd, hn, hB⟩ := hb
  exact ref_limbs xs ys A B c d 0 w.heap.size 0 w.heap.size w hA hB (Nat.le_refl _) (Nat.le_refl _) (Nat.le_trans hc hm) (Nat.le_trans hd hn)

theorem rat_isOne (xs : List Int) (va : Value) (w : World) (ha : In w va xs) :
    Calls Try.prog 72 #[va] w fun e w' => e = .returned (.bool (decide (xs = [1]))) ∧ Below w.heap.size w w' := by
  obtain ⟨A, c, rfl, hc, hm, hA⟩ := ha
  have HA := Lib.hid hA
  have hm1 : xs.length ≤ 9223372036854775807 := Nat.le_trans hc hm
  clear hA hc hm
  by_cases h1 : xs.length = 1
  · obtain ⟨z, rfl⟩ := List.length_eq_one_iff.mp h1
    obtain ⟨b, off, rfl, _, _, hcell⟩ := HA.out 0 z rfl
    rw [Nat.add_zero] at hcell
    clear h1 hm1
    go_enter Try.func72, Try.ntmps72
    go_wp2_with fail
    go_ret
    exact ⟨by by_cases h : z = 1 <;> simp [h], Below.refl _ _⟩
  · have hv : ¬ xs = [1] := by rintro rfl; exact h1 rfl
    have HV := Lib.hid hv
    have hne : ((xs.length : Int) == 1) = false := by simpa using fun h => h1 (by omega)
    clear hv h1
    go_enter Try.func72, Try.ntmps72
    go_wp2_with fail
    go_ret
    rw [decide_eq_false HV.out]; exact ⟨rfl, Below.refl _ _⟩

theorem rat_isZero (v : Value) (b : Bool) (xs ys : List Int) (w : World) (ha : InR w v b xs ys) :
    Calls Try.prog 73 #[v] w fun e w' => e = .returned (.bool xs.isEmpty) ∧ Below w.heap.size w w' := by
  obtain ⟨vp, vq, rfl, ⟨A, c, rfl, hc, hm, hA⟩, ⟨B, d, rfl, hd, hn, hB⟩⟩ := ha
  have hm1 : xs.length ≤ 9223372036854775807 := Nat.le_trans hc hm
  clear hA hB hc hm hd hn
  cases xs with
  | nil =>
    go_enter Try.func73, Try.ntmps73
    go_wp2_with fail
    go_ret
    exact ⟨rfl, below_alloc _ _⟩
  | cons x xs =>
    have hne : (((x :: xs).length : Int) == 0) = false := by simp; omega
    obtain ⟨n, hnn⟩ : ∃ n, n = (x :: xs).length := ⟨_, rfl⟩
    rw [← hnn] at hne hm1 ⊢
    clear hnn
    go_enter Try.func73, Try.ntmps73
    go_wp2_with fail
    go_ret
    exact ⟨rfl, below_alloc _ _⟩

def inRB (n : Int) : Bool := decide (-1125899906842624 ≤ n) && decide (n ≤ 1125899906842624)
theorem rat_inRange (n : Int) (w : World) :
    Calls Try.prog 52 #[.int .i64 n] w fun e w' => e = .returned (.bool (inRB n)) ∧ w = w' := by
  by_cases h1 : -1125899906842624 ≤ n
  · go_enter Try.func52, Try.ntmps52
    go_wp2_with fail
    go_ret
    exact ⟨by simp [inRB, h1], rfl⟩
  · have h2 : decide (-1125899906842624 ≤ n) = false := decide_eq_false h1
    go_enter Try.func52, Try.ntmps52
    go_wp2_with fail
    go_ret
    exact ⟨by unfold inRB; rw [h2]; rfl, rfl⟩

/-- A struct that a function leaves. -/
def StR (w : World) (b : Bool) (xs ys : List Int) (e : Ending) (w' : World) : Prop := ∃ v, e = .returned v ∧ InR w' v b xs ys ∧ Below w.heap.size w w'

theorem rat_signed (n : Bool) (xs ys : List Int) (va vb : Value) (w : World) (ha : In w va xs) (hb : In w vb ys) :
    Calls Try.prog 71 #[.bool n, va, vb] w (StR w (n && !xs.isEmpty) xs ys) := by
  have HIA := Lib.hid ha
  have HIB := Lib.hid hb
  obtain ⟨A, c, rfl, hc, hm, hA⟩ := ha
  obtain ⟨B, d, rfl, hd, hn, hB⟩ := hb
  have hm1 : xs.length ≤ 9223372036854775807 := Nat.le_trans hc hm
  have hm2 : ys.length ≤ 9223372036854775807 := Nat.le_trans hd hn
  have he : xs.isEmpty = !decide (0 < xs.length) := by cases xs <;> simp
  rw [he, Bool.not_not]
  clear hA hB hc hm hd hn he
  cases n with
  | false =>
    go_enter Try.func71, Try.ntmps71
    go_wp2_with fail
    exact bodyPost_ret (v := .agg #[.bool false, .slice A xs.length c, .slice B ys.length d]) (by simp [results, Try.results71, go_sem]) rfl ⟨_, rfl, ⟨_, _, rfl, HIA.out.alloc _, HIB.out.alloc _⟩, below_alloc _ _⟩
  | true =>
    go_enter Try.func71, Try.ntmps71
    go_wp2_with fail
    exact bodyPost_ret (v := .agg #[.bool (decide (0 < xs.length)), .slice A xs.length c, .slice B ys.length d]) (by simp [results, Try.results71, go_sem]) rfl ⟨_, rfl, ⟨_, _, rfl, HIA.out.alloc _, HIB.out.alloc _⟩, below_alloc _ _⟩

theorem ref_negated (v : Value) (b : Bool) (xs ys : List Int) (w : World) (ha : InR w v b xs ys) :
    Calls Try.prog 51 #[v] w (StR w (!b && !xs.isEmpty) xs ys) := by
  obtain ⟨vp, vq, rfl, ha, hb⟩ := ha
  have HIA := Lib.hid ha
  have HIB := Lib.hid hb
  obtain ⟨A, c, rfl, hc, hm, hA⟩ := ha
  obtain ⟨B, d, rfl, hd, hn, hB⟩ := hb
  have hm1 : xs.length ≤ 9223372036854775807 := Nat.le_trans hc hm
  have hm2 : ys.length ≤ 9223372036854775807 := Nat.le_trans hd hn
  have he : xs.isEmpty = !decide (0 < xs.length) := by cases xs <;> simp
  rw [he, Bool.not_not]
  clear hA hB hc hm hd hn he
  cases b with
  | true =>
    go_enter Try.func51, Try.ntmps51
    go_wp2_with fail
    exact bodyPost_ret (v := .agg #[.bool false, .slice A xs.length c, .slice B ys.length d]) (by simp [results, Try.results51, go_sem]) rfl ⟨_, rfl, ⟨_, _, rfl, (HIA.out.alloc _).alloc _, (HIB.out.alloc _).alloc _⟩, balloc (below_alloc _ _) _⟩
  | false =>
    go_enter Try.func51, Try.ntmps51
    go_wp2_with fail
    exact bodyPost_ret (v := .agg #[.bool (decide (0 < xs.length)), .slice A xs.length c, .slice B ys.length d]) (by simp [results, Try.results51, go_sem]) rfl ⟨_, rfl, ⟨_, _, rfl, (HIA.out.alloc _).alloc _, (HIB.out.alloc _).alloc _⟩, balloc (below_alloc _ _) _⟩

end Go.Proofs.Ytohfaoclemcfaaa
/- The contract of nat.shortened. -/
namespace Go.Proofs.Ytohfaoclemcfaaa
open Go.ChangeShapes Go.WideShapes Go.RowKit
set_option linter.unusedVariables false
set_option maxRecDepth 100000

set_option maxHeartbeats 6400000 in
theorem nat_shortened (xs ys : List Int) (va vb : Value) (w : World) (ha : In w va xs) (hb : In w vb ys) (hx : nrm xs = true) (hy : nrm ys = true) (hly : 2 < ys.length) (hlx : xs.length ≤ 1000) (hly2 : ys.length ≤ 1000) :
    Calls Try.prog 88 #[va, vb] w (ShortRes w xs ys) := by
  have HIA := Lib.hid ha
  have HIB := Lib.hid hb
  obtain ⟨A, ca, rfl, hc, hm, hA⟩ := ha
  obtain ⟨B, cb, rfl, hd, hn, hB⟩ := hb
  have hfs := nat_foreseen xs ys A B ca cb w hA hB (nrm_lok hx) (nrm_lok hy) hly hc hd hlx hly2
  have HFS := Lib.hid hfs
  have HA := Lib.hid hA
  have HB := Lib.hid hB
  have HX := Lib.hid hx
  have HY := Lib.hid hy
  clear hA hB hx hy hfs hm hn
  go_enter Try.func88, Try.ntmps88
  go_wp2_with (go_at_call 100; refine HFS.out.mono ?_; rintro e w1 ⟨a, b, c, d, u, v, u0, v0, rfl, hinv, hle, hb1⟩; refine Hid.out ?_)
  refine Lib.hid ?_
  have HI := Lib.hid hinv
  have HLE := Lib.hid hle
  have HB1 := Lib.hid hb1
  have bd := hinv.bd
  clear hinv hle hb1
  by_cases hb0 : b = 0
  · subst hb0
    have HB2 := Lib.hid (balloc HB1.out (.cells #[.int .i64 a, .int .i64 0, .int .i64 c, .int .i64 d] 85))
    go_wp2_with fail
    refine (nat_divide xs ys _ _ _ (HIA.out.on HB2.out) (HIB.out.on HB2.out) HX.out HY.out hlx (by omega)).mono ?_
    rintro e w3 ⟨vq, vr, rfl, -, hr, hb3⟩
    have HR := Lib.hid hr.toIn
    have HB3 := Lib.hid (bstep HB2.out hb3)
    clear hr hb3
    go_wp2_with fail
    go_ret2
    have y0 := nval_pos HY.out (by omega)
    have x0 := nval_nonneg (nrm_lok HX.out)
    have hlt : (nval xs).toNat % (nval ys).toNat < (nval ys).toNat := Nat.mod_lt _ (by omega)
    refine ⟨_, _, ys, limbs ((nval xs).toNat % (nval ys).toNat), rfl, HIB.out.on HB3.out, HR.out, HY.out, nrm_of_limbs _, Nat.le_refl _, len_le_of HY.out (by omega), ?_, ?_, HB3.out⟩
    · rw [nval_limbs, Int.toNat_natCast]; exact gcd_step _ _
    · rw [nval_limbs]; omega
  · have hbn : (b == 0) = false := beq_false_of_ne hb0
    have hfc := short_facts HI.out hb0 HX.out HY.out
    have hlen := HLE.out hb0
    obtain ⟨f1, f2, f3, f4, f5⟩ := hfc
    have hc1 : ∀ W, Below w.heap.size w W → Calls Try.prog 101 #[.slice A xs.length ca, .int .i64 a, .slice B ys.length cb, .int .i64 b] W (GcdRes W (a * nval xs + b * nval ys).toNat) :=
      fun W hW => nat_combined xs ys A B ca cb a b W ((HA.out.below hW (Nat.le_refl _)).more (Nat.le_refl _) hW.size) ((HB.out.below hW (Nat.le_refl _)).more (Nat.le_refl _) hW.size) (nrm_lok HX.out) (nrm_lok HY.out) hlen hlx (by omega) (by omega) (by omega) (by omega) f1 f2
    have hc2 : ∀ W, Below w.heap.size w W → Calls Try.prog 101 #[.slice A xs.length ca, .int .i64 c, .slice B ys.length cb, .int .i64 d] W (GcdRes W (c * nval xs + d * nval ys).toNat) :=
      fun W hW => nat_combined xs ys A B ca cb c d W ((HA.out.below hW (Nat.le_refl _)).more (Nat.le_refl _) hW.size) ((HB.out.below hW (Nat.le_refl _)).more (Nat.le_refl _) hW.size) (nrm_lok HX.out) (nrm_lok HY.out) hlen hlx (by omega) (by omega) (by omega) (by omega) f3 (by omega)
    have HC1 := Lib.hid hc1
    have HC2 := Lib.hid hc2
    have F2 := Lib.hid f2
    have F4 := Lib.hid f4
    have F5 := Lib.hid f5
    have F1 := Lib.hid f1
    have F3 := Lib.hid f3
    obtain ⟨W2, hW2⟩ : ∃ W2, W2 = w1.alloc (.cells #[.int .i64 a, .int .i64 b, .int .i64 c, .int .i64 d] 85) := ⟨_, rfl⟩
    have hfour : Four W2 w1.heap.size a b c d := by rw [hW2]; exact Four.new _ _ _ _ _ _
    have hbw : Below w.heap.size w W2 := by rw [hW2]; exact balloc HB1.out _
    have four_on : ∀ (W W' : World), Four W w1.heap.size a b c d → Below W.heap.size W W' → W'.cell? ⟨w1.heap.size, 0, none⟩ = some (.int .i64 a) ∧ W'.cell? ⟨w1.heap.size, 1, none⟩ = some (.int .i64 b) ∧ W'.cell? ⟨w1.heap.size, 2, none⟩ = some (.int .i64 c) ∧ W'.cell? ⟨w1.heap.size, 3, none⟩ = some (.int .i64 d) := by
      intro W W' h hb
      have h' := (h.keep (hb.block _ h.lt)).row
      exact ⟨h'.cell (i := 0) rfl, h'.cell (i := 1) rfl, h'.cell (i := 2) rfl, h'.cell (i := 3) rfl⟩
    have FO := Lib.hid four_on
    have HF := Lib.hid hfour
    have HBW := Lib.hid hbw
    clear hc1 hc2 f1 f2 f3 f4 f5 four_on hfour hbw hlen
    go_wp2_with fail
    rw [← hW2]
    obtain ⟨g0, g1, g2, g3⟩ := FO.out W2 W2 HF.out (Below.refl _ _)
    clear hW2
    go_region_held3 (fun W' => W'.cell? ⟨w1.heap.size, 0, none⟩ = some (.int .i64 a) ∧ W'.cell? ⟨w1.heap.size, 1, none⟩ = some (.int .i64 b) ∧ W'.cell? ⟨w1.heap.size, 2, none⟩ = some (.int .i64 c) ∧ W'.cell? ⟨w1.heap.size, 3, none⟩ = some (.int .i64 d))
      (first | exact ⟨g0, g1, g2, g3⟩ | exact FO.out W2.drew _ (HF.out.keep rfl) (by assumption) | exact FO.out W2.drew _ (HF.out.keep rfl) (bstep hb3 (by assumption)))
      (first | (go_at_call 101; (with_reducible refine (HC1.out _ HBW.out.drew).mono ?_); rintro e w3 ⟨v1, rfl, hs1, hb3⟩) | (go_at_call 101; (with_reducible refine (HC2.out _ (bstep HBW.out.drew hb3)).mono ?_); rintro e w4 ⟨v2, rfl, hs2, hb4⟩))
    all_goals go_wp2_with fail
    all_goals go_ret2
    all_goals have hb34 := bstep (bstep HBW.out.drew hb3) hb4
    all_goals exact ⟨v1, v2, limbs (a * nval xs + b * nval ys).toNat, limbs (c * nval xs + d * nval ys).toNat, rfl, hs1.toIn.on hb4, hs2.toIn, nrm_of_limbs _, nrm_of_limbs _, len_le_of HY.out (by have := F2.out; omega), len_le_of HY.out (by have := F4.out; omega), (by rw [nval_limbs, nval_limbs, Int.toNat_natCast, Int.toNat_natCast]; exact F5.out), (by rw [nval_limbs]; have := F3.out; have := F4.out; omega), hb34⟩
end Go.Proofs.Ytohfaoclemcfaaa
/- Contracts of rat.reduced and of Reduce of the reference; the calls of nat that they make. -/
namespace Go.Proofs.Ytohfaoclemcfaaa
open Go.ChangeShapes Go.WideShapes Go.RowKit
set_option linter.unusedVariables false
set_option maxRecDepth 100000

theorem in_open {w : World} {v : Value} {zs : List Int} (h : In w v zs) : ∃ A c, v = .slice A zs.length c ∧ In w (.slice A zs.length c) zs := by
  obtain ⟨A, c, rfl, k⟩ := h; exact ⟨A, c, rfl, A, c, rfl, k⟩
/-- A store into a cell that holds no integer leaves the limbs alone. -/
theorem In.set {w : World} {v : Value} {zs : List Int} {p : Addr} {u : Value} (h : In w v zs) (hx : w.cell? p = some u) (hu : ∀ z, u ≠ .int .i64 z) (x : Value) : In (w.setCell p x) v zs := by
  obtain ⟨A, c, rfl, h1, h2, h3⟩ := h
  refine ⟨A, c, rfl, h1, h2, fun k z hz => ?_⟩
  obtain ⟨b, off, hA, hlo, hlt, hc⟩ := h3 k z hz
  refine ⟨b, off, hA, ⟨Nat.zero_le _, Or.inl rfl⟩, by simpa using hlt, ?_⟩
  rw [World.cell?_setCell_other w p _ x (fun e => by subst e; rw [hx] at hc; cases hc; exact hu z rfl)]
  exact hc

/-- A number in a block: three cells, none frozen. -/
def Cel (w : World) (g : Nat) (u0 u1 u2 : Value) : Prop :=
  (w.cell? ⟨g, 0, none⟩ = some u0 ∧ w.cell? ⟨g, 1, none⟩ = some u1 ∧ w.cell? ⟨g, 2, none⟩ = some u2) ∧ (w.frozen? ⟨g, 0, none⟩ = false ∧ w.frozen? ⟨g, 1, none⟩ = false ∧ w.frozen? ⟨g, 2, none⟩ = false)
theorem Cel.lt {w : World} {g : Nat} {u0 u1 u2 : Value} (h : Cel w g u0 u1 u2) : g < w.heap.size := World.block_lt_of_cell? w _ h.1.1
theorem Cel.below {w w' : World} {B g : Nat} {u0 u1 u2 : Value} (h : Cel w g u0 u1 u2) (hb : Below B w w') (hg : g < B) : Cel w' g u0 u1 u2 := by
  obtain ⟨⟨h0, h1, h2⟩, f0, f1, f2⟩ := h
  exact ⟨⟨(hb.cell (p := ⟨g, 0, none⟩) hg).trans h0, (hb.cell (p := ⟨g, 1, none⟩) hg).trans h1, (hb.cell (p := ⟨g, 2, none⟩) hg).trans h2⟩,
    (hb.frozen (p := ⟨g, 0, none⟩) hg).trans f0, (hb.frozen (p := ⟨g, 1, none⟩) hg).trans f1, (hb.frozen (p := ⟨g, 2, none⟩) hg).trans f2⟩
theorem Cel.on {w w' : World} {g : Nat} {u0 u1 u2 : Value} (h : Cel w g u0 u1 u2) (hb : Below w.heap.size w w') : Cel w' g u0 u1 u2 := h.below hb h.lt
theorem Cel.alloc {w : World} {g : Nat} {u0 u1 u2 : Value} (h : Cel w g u0 u1 u2) (o : Obj) : Cel (w.alloc o) g u0 u1 u2 := h.on (below_alloc w o)
theorem set_same {w : World} {a : Addr} {u : Value} (h : w.cell? a = some u) (v : Value) : (w.setCell a v).cell? a = some v := World.cell?_setCell_same w a v h
theorem frozen_of {W : World} {g : Nat} {cs : Array Value} {t : TypeId} (h : W.heap[g]? = some (.cells cs t (0, 0))) (i : Nat) : W.frozen? ⟨g, i, none⟩ = false := by simp [World.frozen?, h]
theorem Cel.new (w : World) (u0 u1 u2 : Value) (t : TypeId) : Cel (w.alloc (.cells #[u0, u1, u2] t)) w.heap.size u0 u1 u2 := by
  have hb := heap_alloc_new w (.cells #[u0, u1, u2] t)
  refine ⟨⟨?_, ?_, ?_⟩, ?_, ?_, ?_⟩
  · rw [cell_of_row _ _ _ _ _ _ hb]; rfl
  · rw [cell_of_row _ _ _ _ _ _ hb]; rfl
  · rw [cell_of_row _ _ _ _ _ _ hb]; rfl
  · exact frozen_of hb _
  · exact frozen_of hb _
  · exact frozen_of hb _
/-- A number stored into such a block. -/
def put3 (w : World) (g : Nat) (u0 u1 u2 : Value) : World := ((w.setCell ⟨g, 0, none⟩ u0).setCell ⟨g, 1, none⟩ u1).setCell ⟨g, 2, none⟩ u2
theorem put3_size (w : World) (g : Nat) (u0 u1 u2 : Value) : (put3 w g u0 u1 u2).heap.size = w.heap.size := by simp [put3]
theorem Cel.put3 {w : World} {g : Nat} {u0 u1 u2 : Value} (h : Cel w g u0 u1 u2) (x0 x1 x2 : Value) : Cel (put3 w g x0 x1 x2) g x0 x1 x2 := by
  obtain ⟨⟨h0, h1, h2⟩, f0, f1, f2⟩ := h
  have ne : ∀ (i j : Nat), i ≠ j → ((⟨g, i, none⟩ : Addr) ≠ ⟨g, j, none⟩) := fun i j hij e => by cases e; exact hij rfl
  have a0 : ∀ (W : World) (x : Value) (i : Nat), i ≠ 0 → (W.setCell ⟨g, 0, none⟩ x).cell? ⟨g, i, none⟩ = W.cell? ⟨g, i, none⟩ := fun W x i hi => World.cell?_setCell_other W _ _ x (ne _ _ hi.symm)
  have a1 : ∀ (W : World) (x : Value) (i : Nat), i ≠ 1 → (W.setCell ⟨g, 1, none⟩ x).cell? ⟨g, i, none⟩ = W.cell? ⟨g, i, none⟩ := fun W x i hi => World.cell?_setCell_other W _ _ x (ne _ _ hi.symm)
  have a2 : ∀ (W : World) (x : Value) (i : Nat), i ≠ 2 → (W.setCell ⟨g, 2, none⟩ x).cell? ⟨g, i, none⟩ = W.cell? ⟨g, i, none⟩ := fun W x i hi => World.cell?_setCell_other W _ _ x (ne _ _ hi.symm)
  unfold Go.Proofs.Ytohfaoclemcfaaa.put3
  refine ⟨⟨?_, ?_, ?_⟩, ?_, ?_, ?_⟩
  · rw [a2 _ _ _ (by decide), a1 _ _ _ (by decide)]; exact set_same h0 _
  · rw [a2 _ _ _ (by decide)]; exact set_same ((a0 _ _ _ (by decide)).trans h1) _
  · exact set_same (((a1 _ _ _ (by decide)).trans (a0 _ _ _ (by decide))).trans h2) _
  · simpa using f0
  · simpa using f1
  · simpa using f2
theorem In.put3 {w : World} {v : Value} {zs : List Int} {g : Nat} {b : Bool} {A B : Option Addr} {n c m d : Nat} (h : In w v zs) (hc : Cel w g (.bool b) (.slice A n c) (.slice B m d)) (x0 x1 x2 : Value) : In (put3 w g x0 x1 x2) v zs := by
  have ne : ∀ (i j : Nat), i ≠ j → ((⟨g, i, none⟩ : Addr) ≠ ⟨g, j, none⟩) := fun i j hij e => by cases e; exact hij rfl
  obtain ⟨⟨h0, h1, h2⟩, -⟩ := hc
  refine ((h.set h0 (fun _ e => by cases e) x0).set (p := ⟨g, 1, none⟩) (u := .slice A n c) ?_ (fun _ e => by cases e) x1).set (p := ⟨g, 2, none⟩) (u := .slice B m d) ?_ (fun _ e => by cases e) x2
  · exact (World.cell?_setCell_other _ _ _ _ (ne _ _ (by decide))).trans h1
  · exact (World.cell?_setCell_other _ _ _ _ (ne _ _ (by decide))).trans ((World.cell?_setCell_other _ _ _ _ (ne _ _ (by decide))).trans h2)
theorem below_put3 {B : Nat} {w w' : World} (h : Below B w w') {g : Nat} (hg : B ≤ g) (x0 x1 x2 : Value) : Below B w (put3 w' g x0 x1 x2) :=
  ((h.setCell (p := ⟨g, 0, none⟩) hg _).setCell (p := ⟨g, 1, none⟩) hg _).setCell (p := ⟨g, 2, none⟩) hg _

theorem nat_Gcd_in (xs ys : List Int) (va vb : Value) (w : World) (ha : In w va xs) (hb : In w vb ys) :
    Calls Try.prog 69 #[va, vb] w (ResIn w (gcdN xs ys) (formE xs ys)) := by
  refine (Gcd_of xs ys va vb w ha hb fun h1 h2 => gcd_of_short (fun xs ys va vb W ha hb hx hy h1 h2 h3 => nat_shortened xs ys va vb W ha hb hx hy h1 h2 h3) xs ys va vb w ha hb (valid_nrm h1) (valid_nrm h2) (by have := valid_len h1; omega) (by have := valid_len h2; omega)).mono ?_
  rintro e w' ⟨v, h1, h2, h3⟩
  exact ⟨v, h1, h2.toIn, h3⟩
theorem nat_DivMod_in (xs ys : List Int) (va vb : Value) (w : World) (ha : In w va xs) (hb : In w vb ys) :
    Calls Try.prog 70 #[va, vb] w (DmIn w xs ys) := by
  refine (nat_DivMod xs ys va vb w ha hb).mono ?_
  rintro e w' ⟨vq, vr, h1, h2, h3, h4⟩
  exact ⟨vq, vr, h1, h2.toIn, h3.toIn, h4⟩

theorem both48 {p q : Nat} (hp : p < big48) (hq : q < big48) : both (limbs p) (limbs q) = true := by rw [both, valid48 hp, valid48 hq]; rfl
theorem gcdN_limbs {p q : Nat} (hp : p < big48) (hq : q < big48) : gcdN (limbs p) (limbs q) = Nat.gcd p q := by rw [gcdN, both48 hp hq, if_pos rfl, nvt, nvt]
theorem formE_limbs {p q : Nat} (hp : p < big48) (hq : q < big48) : formE (limbs p) (limbs q) = 0 := by rw [formE, both48 hp hq, if_pos rfl]
theorem divOk_limbs {p q : Nat} (hp : p < big48) (hq : q < big48) (h0 : q ≠ 0) : divOk (limbs p) (limbs q) = true := by rw [divOk, both48 hp hq, limbs_ne h0]; rfl
theorem quoN_limbs {p q : Nat} (hp : p < big48) (hq : q < big48) (h0 : q ≠ 0) : quoN (limbs p) (limbs q) = p / q := by rw [quoN, divOk_limbs hp hq h0, if_pos rfl, nvt, nvt]
theorem remN_limbs {p q : Nat} (hp : p < big48) (hq : q < big48) (h0 : q ≠ 0) : remN (limbs p) (limbs q) = p % q := by rw [remN, divOk_limbs hp hq h0, if_pos rfl, nvt, nvt]
theorem divE_limbs {p q : Nat} (hp : p < big48) (hq : q < big48) (h0 : q ≠ 0) : divE (limbs p) (limbs q) = 0 := by rw [divE, both48 hp hq, if_pos rfl, limbs_ne h0]; rfl
theorem red_form {b : Bool} {p q : Nat} (h0 : q ≠ 0) :
    negR (mkRat (sgI b p) q) = (b && !(limbs (p / Nat.gcd p q)).isEmpty) ∧ topL (mkRat (sgI b p) q) = limbs (p / Nat.gcd p q) ∧ botL (mkRat (sgI b p) q) = limbs (q / Nat.gcd p q) := by
  obtain ⟨h1, h2⟩ := mk_parts (b := b) (p := p) h0
  refine ⟨?_, ?_, ?_⟩
  · rw [negR_sg h1, limbs_emp]
    congr 1; by_cases h : p / Nat.gcd p q = 0
    · rw [h]; rfl
    · rw [decide_eq_true (Nat.pos_of_ne_zero h), decide_eq_false h]; rfl
  · unfold topL; rw [h1, sgI_abs]
  · unfold botL; rw [h2]

set_option maxHeartbeats 800000 in
theorem rat_reduced (b : Bool) (p q : Nat) (va vb : Value) (w : World) (ha : In w va (limbs p)) (hb : In w vb (limbs q)) (hp : p < big48) (hq : q < big48) (h0 : q ≠ 0) :
    Calls Try.prog 54 #[.bool b, va, vb] w (fun e w' => ∃ v, e = .returned v ∧ IsR w' v (mkRat (sgI b p) q) ∧ Below w.heap.size w w') := by
  have hg : Nat.gcd p q < big48 ∧ Nat.gcd p q ≠ 0 := ⟨Nat.lt_of_le_of_lt (Nat.gcd_le_right _ (by omega)) hq, fun h => h0 (Nat.eq_zero_of_gcd_eq_zero_right h)⟩
  have FF := Lib.hid (red_form (b := b) (p := p) h0)
  have G := Lib.hid (gcdN_limbs hp hq)
  have D1 := Lib.hid (quoN_limbs hp hg.1 hg.2)
  have D2 := Lib.hid (quoN_limbs hq hg.1 hg.2)
  have HC := Lib.hid (Cel.new w (.bool false) (.slice none 0 0) (.slice none 0 0) 27)
  obtain ⟨A, c, rfl, ha'⟩ := in_open ha
  obtain ⟨B, d, rfl, hb'⟩ := in_open hb
  have HA := Lib.hid ha'
  have HB := Lib.hid hb'
  clear ha hb ha' hb' hp hq h0 hg
  go_enter Try.func54, Try.ntmps54
  go_wp2_with fail
  refine (nat_Gcd_in _ _ _ _ _ (HA.out.alloc _) (HB.out.alloc _)).mono ?_
  rintro e w1 ⟨v1, rfl, h1, hb1⟩
  rw [G.out] at h1
  have HG := Lib.hid h1
  have HB1 := Lib.hid hb1
  have HC1 := Lib.hid (HC.out.on hb1)
  clear h1 hb1
  go_wp2_with fail
  refine (nat_DivMod_in _ _ _ _ _ ((HA.out.alloc _).on HB1.out) HG.out).mono ?_
  rintro e w2 ⟨v2, v2r, rfl, h2, _, hb2⟩
  rw [D1.out] at h2
  obtain ⟨X, x, rfl, h2'⟩ := in_open h2
  have HX := Lib.hid h2'
  have HB2 := Lib.hid hb2
  have HC2 := Lib.hid (HC1.out.on hb2)
  clear h2 h2' hb2
  go_wp2_with fail
  refine (nat_DivMod_in _ _ _ _ _ (((HB.out.alloc _).on HB1.out).on HB2.out) (HG.out.on HB2.out)).mono ?_
  rintro e w3 ⟨v3, v3r, rfl, h3, _, hb3⟩
  rw [D2.out] at h3
  obtain ⟨Y, y, rfl, h3'⟩ := in_open h3
  have HY := Lib.hid h3'
  have HB3 := Lib.hid hb3
  have HC3 := Lib.hid (HC2.out.on hb3)
  clear h3 h3' hb3
  go_wp2_with fail
  refine (rat_signed b _ _ _ _ _ (HX.out.on HB3.out) HY.out).mono ?_
  rintro e w4 ⟨v4, rfl, h4, hb4⟩
  obtain ⟨vp, vq, rfl, h4p, h4q⟩ := h4
  obtain ⟨P, x4, rfl, h4p'⟩ := in_open h4p
  obtain ⟨Q, y4, rfl, h4q'⟩ := in_open h4q
  have HP := Lib.hid h4p'
  have HQ := Lib.hid h4q'
  have HB4 := Lib.hid hb4
  have HC4 := HC3.out.on hb4
  have HC4' := Lib.hid HC4
  have HR := Lib.hid (HC4.put3 (.bool (b && !(limbs (p / Nat.gcd p q)).isEmpty)) (.slice P (limbs (p / Nat.gcd p q)).length x4) (.slice Q (limbs (q / Nat.gcd p q)).length y4))
  obtain ⟨⟨c0, c1, c2⟩, f0, f1, f2⟩ := HC4
  clear h4p h4q h4p' h4q' hb4
  go_wp2_with fail
  obtain ⟨⟨r0, r1, r2⟩, -⟩ := HR.out
  refine bodyPost_ret (v := .agg #[.bool (b && !(limbs (p / Nat.gcd p q)).isEmpty), .slice P (limbs (p / Nat.gcd p q)).length x4, .slice Q (limbs (q / Nat.gcd p q)).length y4]) (by simp only [put3] at r0 r1 r2; simp [results, Try.results54, go_sem, r0, r1, r2]) rfl ?_
  refine ⟨_, rfl, ⟨_, _, by rw [FF.out.1], ?_, ?_⟩, ?_⟩
  · rw [FF.out.2.1]; exact HP.out.put3 HC4'.out _ _ _
  · rw [FF.out.2.2]; exact HQ.out.put3 HC4'.out _ _ _
  · exact below_put3 (bstep (bstep (bstep ((below_alloc _ _).trans (HB1.out.mono (by simp))) HB2.out) HB3.out) HB4.out) (Nat.le_refl _) _ _ _
end Go.Proofs.Ytohfaoclemcfaaa
/- Contracts of Reduce of the reference, products, signedSum, plus. -/
namespace Go.Proofs.Ytohfaoclemcfaaa
open Go.ChangeShapes Go.WideShapes Go.RowKit
set_option linter.unusedVariables false
set_option maxRecDepth 100000

set_option maxHeartbeats 800000 in
theorem ref_Reduce (b : Bool) (p q : Nat) (va vb : Value) (w : World) (ha : In w va (limbs p)) (hb : In w vb (limbs q)) (hp : p < big48) (hq : q < big48) (h0 : q ≠ 0) :
    Calls Try.prog 49 #[.bool b, va, vb] w (fun e w' => ∃ v, e = .returned v ∧ IsR w' v (mkRat (sgI b p) q) ∧ Below w.heap.size w w') := by
  have hg : Nat.gcd p q < big48 ∧ Nat.gcd p q ≠ 0 := ⟨Nat.lt_of_le_of_lt (Nat.gcd_le_right _ (by omega)) hq, fun h => h0 (Nat.eq_zero_of_gcd_eq_zero_right h)⟩
  have FF := Lib.hid (red_form (b := b) (p := p) h0)
  have G := Lib.hid (gcdN_limbs hp hq)
  have D1 := Lib.hid (quoN_limbs hp hg.1 hg.2)
  have D2 := Lib.hid (quoN_limbs hq hg.1 hg.2)
  have hm1 : (limbs (p / Nat.gcd p q)).length ≤ 9223372036854775807 := by have := limbs_len_le.mpr (show p / Nat.gcd p q < 1000000000 ^ 48 from Nat.lt_of_le_of_lt (Nat.div_le_self _ _) hp); omega
  have HC := Lib.hid (Cel.new w (.bool false) (.slice none 0 0) (.slice none 0 0) 27)
  obtain ⟨A, c, rfl, ha'⟩ := in_open ha
  obtain ⟨B, d, rfl, hb'⟩ := in_open hb
  have HA := Lib.hid ha'
  have HB := Lib.hid hb'
  have he : (limbs (p / Nat.gcd p q)).isEmpty = !decide (0 < (limbs (p / Nat.gcd p q)).length) := by cases limbs (p / Nat.gcd p q) <;> simp
  have HE := Lib.hid he
  clear ha hb ha' hb' hp hq h0 hg he
  go_enter Try.func49, Try.ntmps49
  go_wp2_with fail
  refine (ref_Gcd _ _ _ _ _ (HA.out.alloc _) (HB.out.alloc _)).mono ?_
  rintro e w1 ⟨v1, rfl, h1, hb1⟩
  rw [G.out] at h1
  have HG := Lib.hid h1
  have HB1 := Lib.hid hb1
  have HC1 := Lib.hid (HC.out.on hb1)
  clear h1 hb1
  go_wp2_with fail
  refine (ref_DivMod _ _ _ _ _ ((HA.out.alloc _).on HB1.out) HG.out).mono ?_
  rintro e w2 ⟨v2, v2r, rfl, h2, _, hb2⟩
  rw [D1.out] at h2
  obtain ⟨X, x, rfl, h2'⟩ := in_open h2
  have HX := Lib.hid h2'
  have HB2 := Lib.hid hb2
  have HC2 := Lib.hid (HC1.out.on hb2)
  clear h2 h2' hb2
  go_wp2_with fail
  refine (ref_DivMod _ _ _ _ _ (((HB.out.alloc _).on HB1.out).on HB2.out) (HG.out.on HB2.out)).mono ?_
  rintro e w3 ⟨v3, v3r, rfl, h3, _, hb3⟩
  rw [D2.out] at h3
  obtain ⟨Y, y, rfl, h3'⟩ := in_open h3
  have HY := Lib.hid h3'
  have HB3 := Lib.hid hb3
  have HC3 := HC2.out.on hb3
  have HC3' := Lib.hid HC3
  have HR := Lib.hid (HC3.put3 (.bool (b && decide (0 < (limbs (p / Nat.gcd p q)).length))) (.slice X (limbs (p / Nat.gcd p q)).length x) (.slice Y (limbs (q / Nat.gcd p q)).length y))
  obtain ⟨⟨c0, c1, c2⟩, f0, f1, f2⟩ := HC3
  clear h3 h3' hb3
  cases b with
  | false =>
    go_wp2_with fail
    obtain ⟨⟨r0, r1, r2⟩, -⟩ := HR.out
    refine bodyPost_ret (v := .agg #[.bool false, .slice X (limbs (p / Nat.gcd p q)).length x, .slice Y (limbs (q / Nat.gcd p q)).length y]) (by simp only [put3, Bool.false_and] at r0 r1 r2 ⊢; simp [results, Try.results49, go_sem, r0, r1, r2]) rfl ?_
    refine ⟨_, rfl, ⟨_, _, by rw [FF.out.1, HE.out, Bool.not_not]; rfl, ?_, ?_⟩, ?_⟩
    · rw [FF.out.2.1]; exact (HX.out.on HB3.out).put3 HC3'.out _ _ _
    · rw [FF.out.2.2]; exact HY.out.put3 HC3'.out _ _ _
    · exact below_put3 (bstep (bstep ((below_alloc _ _).trans (HB1.out.mono (by simp))) HB2.out) HB3.out) (Nat.le_refl _) _ _ _
  | true =>
    go_wp2_with fail
    obtain ⟨⟨r0, r1, r2⟩, -⟩ := HR.out
    refine bodyPost_ret (v := .agg #[.bool (decide (0 < (limbs (p / Nat.gcd p q)).length)), .slice X (limbs (p / Nat.gcd p q)).length x, .slice Y (limbs (q / Nat.gcd p q)).length y]) (by simp only [put3, Bool.true_and] at r0 r1 r2 ⊢; simp [results, Try.results49, go_sem, r0, r1, r2]) rfl ?_
    refine ⟨_, rfl, ⟨_, _, by rw [FF.out.1, HE.out, Bool.not_not]; rfl, ?_, ?_⟩, ?_⟩
    · rw [FF.out.2.1]; exact (HX.out.on HB3.out).put3 HC3'.out _ _ _
    · rw [FF.out.2.2]; exact HY.out.put3 HC3'.out _ _ _
    · exact below_put3 (bstep (bstep ((below_alloc _ _).trans (HB1.out.mono (by simp))) HB2.out) HB3.out) (Nat.le_refl _) _ _ _

def okE (b : Bool) : Int := if b then 0 else 2
def okL (b : Bool) (n : Nat) : List Int := if b then limbs n else []
theorem mulE_limbs {p q : Nat} (hp : p < big48) (hq : q < big48) : mulE (limbs p) (limbs q) = okE (decide (p * q < big48)) ∧ limbs (mulV (limbs p) (limbs q)) = okL (decide (p * q < big48)) (p * q) := by
  have e : (nval (limbs p) * nval (limbs q)).toNat = p * q := by rw [nval_limbs, nval_limbs, ← Int.natCast_mul]; exact Int.toNat_natCast _
  rw [mulE, mulV, both48 hp hq, if_pos rfl, if_pos rfl, e]
  by_cases h : p * q < big48
  · rw [decide_eq_true h]; exact ⟨if_pos h, by rw [show fitN (p * q) = p * q from if_pos h]; rfl⟩
  · rw [decide_eq_false h]; exact ⟨if_neg h, by rw [show fitN (p * q) = 0 from if_neg h, limbs_zero]; rfl⟩
theorem addE_limbs {p q : Nat} (hp : p < big48) (hq : q < big48) : addE (limbs p) (limbs q) = okE (decide (p + q < big48)) ∧ limbs (addV (limbs p) (limbs q)) = okL (decide (p + q < big48)) (p + q) := by
  have e : (nval (limbs p) + nval (limbs q)).toNat = p + q := by rw [nval_limbs, nval_limbs]; omega
  rw [addE, addV, both48 hp hq, if_pos rfl, if_pos rfl, e]
  by_cases h : p + q < big48
  · rw [decide_eq_true h]; exact ⟨if_pos h, by rw [show fitN (p + q) = p + q from if_pos h]; rfl⟩
  · rw [decide_eq_false h]; exact ⟨if_neg h, by rw [show fitN (p + q) = 0 from if_neg h, limbs_zero]; rfl⟩
theorem subE_limbs {p q : Nat} (hp : p < big48) (hq : q < big48) (h : q ≤ p) : subE (limbs p) (limbs q) = 0 ∧ limbs (subV (limbs p) (limbs q)) = limbs (p - q) := by
  have e : (nval (limbs p) - nval (limbs q)).toNat = p - q := by rw [nval_limbs, nval_limbs]; omega
  have e2 : ¬ nval (limbs p) < nval (limbs q) := by rw [nval_limbs, nval_limbs]; omega
  have h3 : p - q < 1000000000 ^ 48 := Nat.lt_of_le_of_lt (Nat.sub_le _ _) hp
  rw [subE, subV, both48 hp hq, if_pos rfl, if_pos rfl, if_neg e2, if_neg e2, e]
  exact ⟨if_pos h3, by rw [show fitN (p - q) = p - q from if_pos h3]⟩
theorem cmpV_limbs {p q : Nat} (hp : p < big48) (hq : q < big48) : cmpV (limbs p) (limbs q) = cmpI p q := by rw [cmpV, both48 hp hq, if_pos rfl, nval_limbs, nval_limbs]

theorem nat_Mul_in (p q : Nat) (va vb : Value) (w : World) (ha : In w va (limbs p)) (hb : In w vb (limbs q)) (hp : p < big48) (hq : q < big48) :
    Calls Try.prog 83 #[va, vb] w (fun e w' => ∃ v, e = .returned (.tuple #[v, .int .i64 (okE (decide (p * q < big48)))]) ∧ Sl w' w.heap.size w'.heap.size v (okL (decide (p * q < big48)) (p * q)) ∧ Below w.heap.size w w') := by
  refine (nat_Mul _ _ _ _ w ha hb).mono ?_
  rintro e w' ⟨v, rfl, h2, h3⟩
  obtain ⟨e1, e2⟩ := mulE_limbs hp hq
  exact ⟨v, by rw [e1], by rw [← e2]; exact h2, h3⟩
theorem ref_Mul_in (p q : Nat) (va vb : Value) (w : World) (ha : In w va (limbs p)) (hb : In w vb (limbs q)) (hp : p < big48) (hq : q < big48) :
    Calls Try.prog 47 #[va, vb] w (fun e w' => ∃ v, e = .returned (.tuple #[v, .int .i64 (okE (decide (p * q < big48)))]) ∧ Sl w' w.heap.size w'.heap.size v (okL (decide (p * q < big48)) (p * q)) ∧ Below w.heap.size w w') := by
  refine (ref_Mul _ _ _ _ w ha hb).mono ?_
  rintro e w' ⟨v, rfl, h2, h3⟩
  obtain ⟨e1, e2⟩ := mulE_limbs hp hq
  exact ⟨v, by rw [e1], by rw [← e2]; exact h2, h3⟩
theorem nat_Add_in (p q : Nat) (va vb : Value) (w : World) (ha : In w va (limbs p)) (hb : In w vb (limbs q)) (hp : p < big48) (hq : q < big48) :
    Calls Try.prog 97 #[va, vb] w (fun e w' => ∃ v, e = .returned (.tuple #[v, .int .i64 (okE (decide (p + q < big48)))]) ∧ Sl w' w.heap.size w'.heap.size v (okL (decide (p + q < big48)) (p + q)) ∧ Below w.heap.size w w') := by
  refine (nat_Add _ _ _ _ w ha hb).mono ?_
  rintro e w' ⟨v, rfl, h2, h3⟩
  obtain ⟨e1, e2⟩ := addE_limbs hp hq
  exact ⟨v, by rw [e1], by rw [← e2]; exact h2, h3⟩
theorem ref_Add_in (p q : Nat) (va vb : Value) (w : World) (ha : In w va (limbs p)) (hb : In w vb (limbs q)) (hp : p < big48) (hq : q < big48) :
    Calls Try.prog 65 #[va, vb] w (fun e w' => ∃ v, e = .returned (.tuple #[v, .int .i64 (okE (decide (p + q < big48)))]) ∧ Sl w' w.heap.size w'.heap.size v (okL (decide (p + q < big48)) (p + q)) ∧ Below w.heap.size w w') := by
  refine (ref_Add _ _ _ _ w ha hb).mono ?_
  rintro e w' ⟨v, rfl, h2, h3⟩
  obtain ⟨e1, e2⟩ := addE_limbs hp hq
  exact ⟨v, by rw [e1], by rw [← e2]; exact h2, h3⟩
theorem nat_Sub_in (p q : Nat) (va vb : Value) (w : World) (ha : In w va (limbs p)) (hb : In w vb (limbs q)) (hp : p < big48) (hq : q < big48) (h : q ≤ p) :
    Calls Try.prog 99 #[va, vb] w (fun e w' => ∃ v, e = .returned (.tuple #[v, .int .i64 0]) ∧ Sl w' w.heap.size w'.heap.size v (limbs (p - q)) ∧ Below w.heap.size w w') := by
  refine (nat_Sub _ _ _ _ w ha hb).mono ?_
  rintro e w' ⟨v, rfl, h2, h3⟩
  obtain ⟨e1, e2⟩ := subE_limbs hp hq h
  exact ⟨v, by rw [e1], by rw [← e2]; exact h2, h3⟩
theorem ref_Sub_in (p q : Nat) (va vb : Value) (w : World) (ha : In w va (limbs p)) (hb : In w vb (limbs q)) (hp : p < big48) (hq : q < big48) (h : q ≤ p) :
    Calls Try.prog 67 #[va, vb] w (fun e w' => ∃ v, e = .returned (.tuple #[v, .int .i64 0]) ∧ Sl w' w.heap.size w'.heap.size v (limbs (p - q)) ∧ Below w.heap.size w w') := by
  refine (ref_Sub _ _ _ _ w ha hb).mono ?_
  rintro e w' ⟨v, rfl, h2, h3⟩
  obtain ⟨e1, e2⟩ := subE_limbs hp hq h
  exact ⟨v, by rw [e1], by rw [← e2]; exact h2, h3⟩
theorem nat_Cmp_in (p q : Nat) (va vb : Value) (w : World) (ha : In w va (limbs p)) (hb : In w vb (limbs q)) (hp : p < big48) (hq : q < big48) :
    Calls Try.prog 98 #[va, vb] w fun e w' => e = .returned (.tuple #[.int .i64 (cmpI p q), .int .i64 0]) ∧ Below w.heap.size w w' := by
  refine (nat_Cmp _ _ _ _ w ha hb).mono ?_
  rintro e w' ⟨rfl, h⟩
  exact ⟨by rw [cmpV_limbs hp hq, formE_limbs hp hq], h⟩
theorem ref_Cmp_in (p q : Nat) (va vb : Value) (w : World) (ha : In w va (limbs p)) (hb : In w vb (limbs q)) (hp : p < big48) (hq : q < big48) :
    Calls Try.prog 66 #[va, vb] w fun e w' => e = .returned (.tuple #[.int .i64 (cmpI p q), .int .i64 0]) ∧ Below w.heap.size w w' := by
  refine (ref_Cmp _ _ _ _ w ha hb).mono ?_
  rintro e w' ⟨rfl, h⟩
  exact ⟨by rw [cmpV_limbs hp hq, formE_limbs hp hq], h⟩

def prOk (a b c d : Nat) : Bool := decide (a * b < big48) && decide (c * d < big48)
set_option maxHeartbeats 800000 in
theorem rat_products (a b c d : Nat) (va vb vc vd : Value) (w : World) (ha : In w va (limbs a)) (hb : In w vb (limbs b)) (hc : In w vc (limbs c)) (hd : In w vd (limbs d)) (h1 : a < big48) (h2 : b < big48) (h3 : c < big48) (h4 : d < big48) :
    Calls Try.prog 74 #[va, vb, vc, vd] w (fun e w' => ∃ vp vq, e = .returned (.tuple #[vp, vq, .int .i64 (okE (prOk a b c d))]) ∧ Sl w' w.heap.size w'.heap.size vp (okL (prOk a b c d) (a * b)) ∧ Sl w' w.heap.size w'.heap.size vq (okL (prOk a b c d) (c * d)) ∧ Below w.heap.size w w') := by
  have HA := Lib.hid ha
  have HB := Lib.hid hb
  have HC := Lib.hid hc
  have HD := Lib.hid hd
  have M1 := Lib.hid (fun W h k => nat_Mul_in a b va vb W h k h1 h2)
  have M2 := Lib.hid (fun W h k => nat_Mul_in c d vc vd W h k h3 h4)
  clear ha hb hc hd h1 h2 h3 h4
  unfold prOk
  cases hab : decide (a * b < big48) with
  | false =>
    rw [hab] at M1
    go_enter Try.func74, Try.ntmps74
    go_wp2_with fail
    refine (M1.out w HA.out HB.out).mono ?_
    rintro e w1 ⟨v1, rfl, _, hb1⟩
    have HB1 := Lib.hid hb1
    clear hb1
    unfold okE
    go_wp2_with fail
    go_ret3
    exact ⟨_, _, rfl, Sl.nil _ _ _, Sl.nil _ _ _, HB1.out⟩
  | true =>
    rw [hab] at M1
    cases hcd : decide (c * d < big48) with
    | false =>
      rw [hcd] at M2
      go_enter Try.func74, Try.ntmps74
      go_wp2_with fail
      refine (M1.out w HA.out HB.out).mono ?_
      rintro e w1 ⟨v1, rfl, _, hb1⟩
      have HB1 := Lib.hid hb1
      clear hb1
      unfold okE
      go_wp2_with fail
      refine (M2.out w1 (HC.out.on HB1.out) (HD.out.on HB1.out)).mono ?_
      rintro e w2 ⟨v2, rfl, _, hb2⟩
      have HB2 := Lib.hid hb2
      clear hb2
      unfold okE
      go_wp2_with fail
      go_ret3
      exact ⟨_, _, rfl, Sl.nil _ _ _, Sl.nil _ _ _, bstep HB1.out HB2.out⟩
    | true =>
      rw [hcd] at M2
      go_enter Try.func74, Try.ntmps74
      go_wp2_with fail
      refine (M1.out w HA.out HB.out).mono ?_
      rintro e w1 ⟨v1, rfl, hv1, hb1⟩
      have HV1 := Lib.hid hv1
      have HB1 := Lib.hid hb1
      clear hb1 hv1
      unfold okE
      go_wp2_with fail
      refine (M2.out w1 (HC.out.on HB1.out) (HD.out.on HB1.out)).mono ?_
      rintro e w2 ⟨v2, rfl, hv2, hb2⟩
      have HV2 := Lib.hid hv2
      have HB2 := Lib.hid hb2
      clear hb2 hv2
      unfold okE
      go_wp2_with fail
      go_ret3
      exact ⟨_, _, rfl, (HV1.out.below HB2.out (Nat.le_refl _)).more (Nat.le_refl _) HB2.out.size, HV2.out.more HB1.out.size (Nat.le_refl _), bstep HB1.out HB2.out⟩
end Go.Proofs.Ytohfaoclemcfaaa
/- Contracts of signedSum, plus (of the reference), Valid of both, times. -/
namespace Go.Proofs.Ytohfaoclemcfaaa
open Go.ChangeShapes Go.WideShapes Go.RowKit
set_option linter.unusedVariables false
set_option maxRecDepth 100000

/-- A sum with signs fits. -/
def ssOk (m : Bool) (x : Nat) (n : Bool) (y : Nat) : Bool := (m != n) || decide (x + y < big48)
def SsRes (w : World) (m : Bool) (x : Nat) (n : Bool) (y : Nat) (e : Ending) (w' : World) : Prop :=
  ∃ v, e = .returned (.tuple #[.bool (sNeg m x n y), v, .int .i64 (okE (ssOk m x n y))]) ∧ Sl w' w.heap.size w'.heap.size v (okL (ssOk m x n y) (sMag m x n y)) ∧ Below w.heap.size w w'
theorem beq_of_ne {m n : Bool} (h : m ≠ n) : (m == n) = false := by cases m <;> cases n <;> simp at h ⊢

set_option maxHeartbeats 800000 in
theorem rat_signedSum (m n : Bool) (x y : Nat) (vx vy : Value) (w : World) (ha : In w vx (limbs x)) (hb : In w vy (limbs y)) (hx : x < big48) (hy : y < big48) :
    Calls Try.prog 87 #[.bool m, vx, .bool n, vy] w (SsRes w m x n y) := by
  have HA := Lib.hid ha
  have HB := Lib.hid hb
  have PA := Lib.hid (fun W h k => nat_Add_in x y vx vy W h k hx hy)
  have PC := Lib.hid (fun W h k => nat_Cmp_in x y vx vy W h k hx hy)
  have HX := Lib.hid hx
  have HY := Lib.hid hy
  clear ha hb hx hy
  by_cases hmn : m = n
  · subst hmn
    have hmm : (m == m) = true := by cases m <;> rfl
    have H1 : Hid (ssOk m x m y = decide (x + y < big48) ∧ sNeg m x m y = m ∧ sMag m x m y = x + y) := ⟨by unfold ssOk; cases m <;> rfl, if_pos rfl, if_pos rfl⟩
    go_enter Try.func87, Try.ntmps87
    go_wp2_with fail
    refine (PA.out w HA.out HB.out).mono ?_
    rintro e w1 ⟨v, rfl, hv, hb1⟩
    have HV := Lib.hid hv
    have HB1 := Lib.hid hb1
    clear hv hb1
    go_wp2_with fail
    go_ret3
    exact ⟨v, by rw [H1.out.1, H1.out.2.1]; rfl, by rw [H1.out.1, H1.out.2.2]; exact HV.out, HB1.out⟩
  · have hne := beq_of_ne hmn
    have hok : ssOk m x n y = true := by unfold ssOk; cases m <;> cases n <;> simp at hmn ⊢
    by_cases hxy : x < y
    · have H1 : Hid (ssOk m x n y = true ∧ sNeg m x n y = n ∧ sMag m x n y = y - x) := ⟨hok, by unfold sNeg; rw [if_neg hmn, if_pos hxy], by unfold sMag; rw [if_neg hmn, if_pos hxy]⟩
      have hc : cmpI (x : Int) (y : Int) = -1 := cmpI_lt (by omega)
      rw [hc] at PC
      have PS := Lib.hid (fun W h k => nat_Sub_in y x vy vx W h k HY.out HX.out (by omega))
      clear hok hxy hmn hc
      go_enter Try.func87, Try.ntmps87
      go_wp2_with fail
      refine (PC.out w HA.out HB.out).mono ?_
      rintro e w1 ⟨rfl, hb1⟩
      have HB1 := Lib.hid hb1
      clear hb1
      go_wp2_with fail
      refine (PS.out w1 (HB.out.on HB1.out) (HA.out.on HB1.out)).mono ?_
      rintro e w2 ⟨v, rfl, hv, hb2⟩
      have HV := Lib.hid hv
      have HB2 := Lib.hid hb2
      clear hv hb2
      go_wp2_with fail
      go_ret3
      exact ⟨_, by rw [H1.out.1, H1.out.2.1]; rfl, by rw [H1.out.1, H1.out.2.2]; exact HV.out.more HB1.out.size (Nat.le_refl _), bstep HB1.out HB2.out⟩
    · have H1 : Hid (ssOk m x n y = true ∧ sNeg m x n y = m ∧ sMag m x n y = x - y) := ⟨hok, by unfold sNeg; rw [if_neg hmn, if_neg hxy], by unfold sMag; rw [if_neg hmn, if_neg hxy]⟩
      have hc : decide (cmpI (x : Int) (y : Int) < 0) = false := by
        refine decide_eq_false ?_
        rcases Nat.lt_or_eq_of_le (Nat.le_of_not_lt hxy) with h | h
        · rw [cmpI_gt (by omega)]; decide
        · rw [h, cmpI_eq]; decide
      have PS := Lib.hid (fun W h k => nat_Sub_in x y vx vy W h k HX.out HY.out (by omega))
      clear hok hxy hmn
      go_enter Try.func87, Try.ntmps87
      go_wp2_with fail
      refine (PC.out w HA.out HB.out).mono ?_
      rintro e w1 ⟨rfl, hb1⟩
      have HB1 := Lib.hid hb1
      clear hb1
      go_wp2_with fail
      refine (PS.out w1 (HA.out.on HB1.out) (HB.out.on HB1.out)).mono ?_
      rintro e w2 ⟨v, rfl, hv, hb2⟩
      have HV := Lib.hid hv
      have HB2 := Lib.hid hb2
      clear hv hb2
      go_wp2_with fail
      go_ret3
      exact ⟨_, by rw [H1.out.1, H1.out.2.1]; rfl, by rw [H1.out.1, H1.out.2.2]; exact HV.out.more HB1.out.size (Nat.le_refl _), bstep HB1.out HB2.out⟩

set_option maxHeartbeats 800000 in
theorem ref_plus (m n : Bool) (x y : Nat) (vx vy : Value) (w : World) (ha : In w vx (limbs x)) (hb : In w vy (limbs y)) (hx : x < big48) (hy : y < big48) :
    Calls Try.prog 48 #[.bool m, vx, .bool n, vy] w (SsRes w m x n y) := by
  have HA := Lib.hid ha
  have HB := Lib.hid hb
  have PA := Lib.hid (fun W h k => ref_Add_in x y vx vy W h k hx hy)
  have PC := Lib.hid (fun W h k => ref_Cmp_in x y vx vy W h k hx hy)
  have HX := Lib.hid hx
  have HY := Lib.hid hy
  clear ha hb hx hy
  by_cases hmn : m = n
  · subst hmn
    have hmm : (m == m) = true := by cases m <;> rfl
    have H1 : Hid (ssOk m x m y = decide (x + y < big48) ∧ sNeg m x m y = m ∧ sMag m x m y = x + y) := ⟨by unfold ssOk; cases m <;> rfl, if_pos rfl, if_pos rfl⟩
    go_enter Try.func48, Try.ntmps48
    go_wp2_with fail
    refine (PA.out w HA.out HB.out).mono ?_
    rintro e w1 ⟨v, rfl, hv, hb1⟩
    have HV := Lib.hid hv
    have HB1 := Lib.hid hb1
    clear hv hb1
    go_wp2_with fail
    go_ret3
    exact ⟨v, by rw [H1.out.1, H1.out.2.1]; rfl, by rw [H1.out.1, H1.out.2.2]; exact HV.out, HB1.out⟩
  · have hne := beq_of_ne hmn
    have hok : ssOk m x n y = true := by unfold ssOk; cases m <;> cases n <;> simp at hmn ⊢
    by_cases hxy : x < y
    · have H1 : Hid (ssOk m x n y = true ∧ sNeg m x n y = n ∧ sMag m x n y = y - x) := ⟨hok, by unfold sNeg; rw [if_neg hmn, if_pos hxy], by unfold sMag; rw [if_neg hmn, if_pos hxy]⟩
      have hc : cmpI (x : Int) (y : Int) = -1 := cmpI_lt (by omega)
      rw [hc] at PC
      have PS := Lib.hid (fun W h k => ref_Sub_in y x vy vx W h k HY.out HX.out (by omega))
      clear hok hxy hmn hc
      go_enter Try.func48, Try.ntmps48
      go_wp2_with fail
      refine (PC.out w HA.out HB.out).mono ?_
      rintro e w1 ⟨rfl, hb1⟩
      have HB1 := Lib.hid hb1
      clear hb1
      go_wp2_with fail
      refine (PS.out w1 (HB.out.on HB1.out) (HA.out.on HB1.out)).mono ?_
      rintro e w2 ⟨v, rfl, hv, hb2⟩
      have HV := Lib.hid hv
      have HB2 := Lib.hid hb2
      clear hv hb2
      go_wp2_with fail
      go_ret3
      exact ⟨_, by rw [H1.out.1, H1.out.2.1]; rfl, by rw [H1.out.1, H1.out.2.2]; exact HV.out.more HB1.out.size (Nat.le_refl _), bstep HB1.out HB2.out⟩
    · have H1 : Hid (ssOk m x n y = true ∧ sNeg m x n y = m ∧ sMag m x n y = x - y) := ⟨hok, by unfold sNeg; rw [if_neg hmn, if_neg hxy], by unfold sMag; rw [if_neg hmn, if_neg hxy]⟩
      have hc : 0 ≤ cmpI (x : Int) (y : Int) := by
        rcases Nat.lt_or_eq_of_le (Nat.le_of_not_lt hxy) with h | h
        · rw [cmpI_gt (by omega)]; decide
        · rw [h, cmpI_eq]; decide
      have PS := Lib.hid (fun W h k => ref_Sub_in x y vx vy W h k HX.out HY.out (by omega))
      clear hok hxy hmn
      go_enter Try.func48, Try.ntmps48
      go_wp2_with fail
      refine (PC.out w HA.out HB.out).mono ?_
      rintro e w1 ⟨rfl, hb1⟩
      have HB1 := Lib.hid hb1
      clear hb1
      go_wp2_with fail
      refine (PS.out w1 (HA.out.on HB1.out) (HB.out.on HB1.out)).mono ?_
      rintro e w2 ⟨v, rfl, hv, hb2⟩
      have HV := Lib.hid hv
      have HB2 := Lib.hid hb2
      clear hv hb2
      go_wp2_with fail
      go_ret3
      exact ⟨_, by rw [H1.out.1, H1.out.2.1]; rfl, by rw [H1.out.1, H1.out.2.2]; exact HV.out.more HB1.out.size (Nat.le_refl _), bstep HB1.out HB2.out⟩
end Go.Proofs.Ytohfaoclemcfaaa
/- Contracts of Valid, of rat and of its reference. -/
namespace Go.Proofs.Ytohfaoclemcfaaa
open Go.ChangeShapes Go.WideShapes Go.RowKit
set_option linter.unusedVariables false
set_option maxRecDepth 100000

theorem limbs_one : limbs 1 = [1] := by rw [limbs_pos (by decide), limbs]; rfl
theorem limbs_is_one (n : Nat) : decide (limbs n = [1]) = gcd1 n := by
  unfold gcd1
  by_cases h : n = 1
  · subst h; rw [limbs_one]; rfl
  · rw [decide_eq_false h, decide_eq_false]; intro e; rw [← limbs_one] at e; exact h (limbs_inj e)
theorem valR_no {b : Bool} {xs ys : List Int} (h : both xs ys = false) : valR b xs ys = false := by unfold valR; rw [show (validB xs && validB ys) = both xs ys from rfl, h]; rfl
theorem valR_yes {b : Bool} {xs ys : List Int} (h : both xs ys = true) : valR b xs ys = (!ys.isEmpty && (gcd1 (Nat.gcd (nval xs).toNat (nval ys).toNat) && !(b && xs.isEmpty))) := by unfold valR; rw [show (validB xs && validB ys) = both xs ys from rfl, h]; rfl
theorem emp_len (xs : List Int) : xs.isEmpty = decide (xs.length = 0) := by cases xs <;> simp

set_option maxHeartbeats 1600000 in
theorem rat_Valid (v : Value) (b : Bool) (xs ys : List Int) (w : World) (ha : InR w v b xs ys) :
    Calls Try.prog 55 #[v] w fun e w' => e = .returned (.bool (valR b xs ys)) ∧ Below w.heap.size w w' := by
  obtain ⟨vp, vq, rfl, ha, hb⟩ := ha
  obtain ⟨A, c, rfl, ha'⟩ := in_open ha
  obtain ⟨B, d, rfl, hb'⟩ := in_open hb
  have HA := Lib.hid ha'
  have HB := Lib.hid hb'
  have HC := Lib.hid (Cel.new w (.bool b) (.slice A xs.length c) (.slice B ys.length d) 27)
  have hm2 : ys.length ≤ 9223372036854775807 := by obtain ⟨_, _, e, h1, h2, _⟩ := hb'; cases e; exact Nat.le_trans h1 h2
  have PG := Lib.hid (fun W h k => nat_Gcd_in xs ys (.slice A xs.length c) (.slice B ys.length d) W h k)
  clear ha hb ha' hb'
  cases hbo : both xs ys with
  | false =>
    have HV := Lib.hid (valR_no (b := b) hbo)
    have e1 : formE xs ys = 3 := by rw [formE, hbo]; rfl
    rw [e1] at PG
    clear hbo e1
    go_enter Try.func55, Try.ntmps55
    go_wp2_with fail
    refine (PG.out _ (HA.out.alloc _) (HB.out.alloc _)).mono ?_
    rintro e w1 ⟨v1, rfl, _, hb1⟩
    have HB1 := Lib.hid hb1
    clear hb1
    go_wp2_with fail
    go_ret
    exact ⟨by rw [HV.out]; rfl, (below_alloc _ _).trans (HB1.out.mono (by simp))⟩
  | true =>
    have HV := Lib.hid (valR_yes (b := b) hbo)
    have e1 : formE xs ys = 0 := by rw [formE, hbo]; rfl
    have e2 : gcdN xs ys = Nat.gcd (nval xs).toNat (nval ys).toNat := by rw [gcdN, hbo]; rfl
    rw [e1, e2] at PG
    obtain ⟨G, hG⟩ : ∃ G, G = Nat.gcd (nval xs).toNat (nval ys).toNat := ⟨_, rfl⟩
    rw [← hG] at PG HV
    clear hbo e1 e2 hG
    cases hg1 : gcd1 G with
    | false =>
      have HV2 : Hid (valR b xs ys = false) := by rw [Hid, HV.out, hg1]; cases ys.isEmpty <;> rfl
      have HG1 := Lib.hid hg1
      clear hg1
      go_enter Try.func55, Try.ntmps55
      go_wp2_with fail
      refine (PG.out _ (HA.out.alloc _) (HB.out.alloc _)).mono ?_
      rintro e w1 ⟨v1, rfl, h1, hb1⟩
      have HI := Lib.hid h1
      have HB1 := Lib.hid hb1
      clear hb1 h1
      go_wp2_with fail
      refine (rat_isOne _ _ _ HI.out).mono ?_
      rw [limbs_is_one, HG1.out]
      rintro e w2 ⟨rfl, hb2⟩
      have HB2 := Lib.hid hb2
      clear hb2
      go_wp2_with fail
      go_ret
      exact ⟨by rw [HV2.out]; rfl, bstep ((below_alloc _ _).trans (HB1.out.mono (by simp))) HB2.out⟩
    | true =>
      rw [hg1] at HV
      have HG1 := Lib.hid hg1
      clear hg1
      rcases Nat.eq_zero_or_pos ys.length with h0 | hp
      · have HV2 : Hid (valR b xs ys = false) := by rw [Hid, HV.out, emp_len, h0]; rfl
        have hn : ys = [] := List.eq_nil_of_length_eq_zero h0
        subst hn
        clear h0
        go_enter Try.func55, Try.ntmps55
        go_wp2_with fail
        refine (PG.out _ (HA.out.alloc _) (HB.out.alloc _)).mono ?_
        rintro e w1 ⟨v1, rfl, h1, hb1⟩
        have HI := Lib.hid h1
        have HC1 := Lib.hid (HC.out.on hb1)
        have HB1 := Lib.hid hb1
        clear hb1 h1
        go_wp2_with fail
        refine (rat_isOne _ _ _ HI.out).mono ?_
        rw [limbs_is_one, HG1.out]
        rintro e w2 ⟨rfl, hb2⟩
        obtain ⟨⟨c0, c1, c2⟩, -⟩ := HC1.out.on hb2
        have HB2 := Lib.hid hb2
        clear hb2
        go_wp2_with fail
        go_ret
        exact ⟨by rw [HV2.out]; rfl, bstep ((below_alloc _ _).trans (HB1.out.mono (by simp))) HB2.out⟩
      · have hpi : (0 : Int) < ys.length := by omega
        have hye : ys.isEmpty = false := by rw [emp_len]; exact decide_eq_false (by omega)
        have HV2 : Hid (valR b xs ys = !(b && xs.isEmpty)) := by rw [Hid, HV.out, hye]; rfl
        clear hye
        cases b with
        | false =>
          go_enter Try.func55, Try.ntmps55
          go_wp2_with fail
          refine (PG.out _ (HA.out.alloc _) (HB.out.alloc _)).mono ?_
          rintro e w1 ⟨v1, rfl, h1, hb1⟩
          have HI := Lib.hid h1
          have HC1 := Lib.hid (HC.out.on hb1)
          have HB1 := Lib.hid hb1
          clear hb1 h1
          go_wp2_with fail
          refine (rat_isOne _ _ _ HI.out).mono ?_
          rw [limbs_is_one, HG1.out]
          rintro e w2 ⟨rfl, hb2⟩
          obtain ⟨⟨c0, c1, c2⟩, -⟩ := HC1.out.on hb2
          have HB2 := Lib.hid hb2
          clear hb2
          go_wp2_with fail
          go_ret
          exact ⟨by rw [HV2.out]; rfl, bstep ((below_alloc _ _).trans (HB1.out.mono (by simp))) HB2.out⟩
        | true =>
          go_enter Try.func55, Try.ntmps55
          go_wp2_with fail
          refine (PG.out _ (HA.out.alloc _) (HB.out.alloc _)).mono ?_
          rintro e w1 ⟨v1, rfl, h1, hb1⟩
          have HI := Lib.hid h1
          have HC1 := Lib.hid (HC.out.on hb1)
          have HB1 := Lib.hid hb1
          clear hb1 h1
          go_wp2_with fail
          refine (rat_isOne _ _ _ HI.out).mono ?_
          rw [limbs_is_one, HG1.out]
          rintro e w2 ⟨rfl, hb2⟩
          obtain ⟨⟨c0, c1, c2⟩, -⟩ := HC1.out.on hb2
          have HB2 := Lib.hid hb2
          clear hb2
          go_wp2_with fail
          refine (rat_isZero _ true xs ys _ ⟨_, _, rfl, ((HA.out.alloc _).on HB1.out).on HB2.out, ((HB.out.alloc _).on HB1.out).on HB2.out⟩).mono ?_
          rintro e w3 ⟨rfl, hb3⟩
          have HB3 := Lib.hid hb3
          clear hb3
          go_wp2_with fail
          go_ret
          exact ⟨by rw [HV2.out]; rfl, bstep (bstep ((below_alloc _ _).trans (HB1.out.mono (by simp))) HB2.out) HB3.out⟩
end Go.Proofs.Ytohfaoclemcfaaa
