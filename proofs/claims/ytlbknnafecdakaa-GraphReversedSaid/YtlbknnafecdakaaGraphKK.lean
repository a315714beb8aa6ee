/- A graph reversed. -/
import Derived.Test.YtlbknnafecdakaaGraphJJ
import Derived.Deep.RegionHeld3
namespace Go.Proofs.Ytlbknnafecdakaa.Graph
open Go.ChangeShapes Go.WideShapes Go.RowKit Go.Lib
set_option linter.unusedVariables false
set_option maxRecDepth 100000

theorem cl_at {α : Type} {enc : α → Value} {w : World} {A : Option Addr} {L : List α} (h : Cl enc w A L) {k : Nat} {z : α} (hk : L[k]? = some z) : ∃ b off, A = some ⟨b, off, none⟩ ∧ b < w.heap.size ∧ w.cell? ⟨b, off + k, none⟩ = some (enc z) := h k z hk
/-- p at y and q at x. -/
theorem two_at {N : Nat} {L : Arcs} {x y : Nat} {p q : List Bool} (hp : IsR N L x p) (hq : IsR N (rev L) y q) (hx : x < N) (hy : y < N) : ∃ t, p[y]? = some t ∧ q[x]? = some t ∧ p[x]? = some true := by
  obtain ⟨t, ht⟩ := get_lt (L := p) (k := y) (by rw [hp.1]; exact hy)
  obtain ⟨u, hu⟩ := get_lt (L := q) (k := x) (by rw [hq.1]; exact hx)
  have h1 := hp.2 y hy
  have h2 := hq.2 x hx
  rw [Rp.rev_iff] at h2
  refine ⟨t, ht, ?_, (hp.2 x hx).mpr (Rp.refl _ _)⟩
  have : t = u := by
    rw [ht] at h1
    rw [hu] at h2
    cases t <;> cases u <;> simp_all
  rw [this]; exact hu

set_option maxHeartbeats 3200000 in
theorem walk_GraphReversed (n : Int) (zs : List Pr) (A : Option Addr) (c : Nat) (w : World) (ha : Ars w A zs) (hm : zs.length ≤ 9223372036854775807) (a b : Nat) (ha1 : a < 256) (hb1 : b < 256) :
    Calls Try.prog 10 #[.agg #[.int .i64 n, .slice A zs.length c], .int .u8 (a : Int), .int .u8 (b : Int)] w fun e w' => e = .returned (.bool true) ∧ Below w.heap.size w w' := by
  have HA := Lib.hid ha
  clear ha
  go_enter Try.func10, Try.ntmps10
  go_upto_region 1 with fail
  obtain ⟨w1, hw1⟩ : ∃ W, w.alloc (.cells #[.int .i64 n, .slice A zs.length c] 24) = W := ⟨_, rfl⟩
  have HX1 : Hid (Bx w1 w.heap.size n A zs.length c) := hw1 ▸ Bx.new _ _ _ _ _ _
  have HB1 : Hid (Below w.heap.size w w1) := hw1 ▸ below_alloc _ _
  rw [hw1]
  clear hw1
  obtain ⟨_, x0, x1⟩ := HX1.out
  go_wp2_with fail
  refine (great_at n zs A c w1 hm).mono ?_
  rintro e w2 ⟨rfl, hb2⟩
  have HK2 := Lib.hid (bx_off ⟨HX1.out, HB1.out⟩ hb2)
  clear hb2 x0 x1 HX1 HB1
  cases hgr : decide (600 < (zs.length : Int)) with
  | true =>
    go_wp2_with fail
    refine (awake_true w2).mono ?_
    rintro e w3 ⟨rfl, hb3⟩
    go_wp2_with fail
    go_ret
    exact ⟨rfl, bstep HK2.out.2 hb3⟩
  | false =>
    obtain ⟨_, x0, x1⟩ := HK2.out.1
    go_wp2_with fail
    refine (ref_Check n zs A c w2 (HA.out.on HK2.out.2) hm).mono ?_
    rintro e w3 ⟨rfl, hb3⟩
    have HK3 := Lib.hid (bx_off HK2.out hb3)
    clear hb3 x0 x1 HK2
    by_cases hz : chkE n zs = 0
    · rw [hz]
      obtain ⟨N, L, hg⟩ := gph_of hz
      obtain rfl := hg.n
      obtain rfl := hg.zs
      have HG := Lib.hid hg
      clear hz hg
      by_cases hN : N = 0
      · subst hN
        obtain ⟨_, x0, x1⟩ := HK3.out.1
        go_wp2_with fail
        refine (awake_true w3).mono ?_
        rintro e w4 ⟨rfl, hb4⟩
        go_wp2_with fail
        go_ret
        exact ⟨rfl, bstep HK3.out.2 hb4⟩
      · obtain ⟨x, hx⟩ : ∃ x, a % N = x := ⟨_, rfl⟩
        obtain ⟨y, hy⟩ : ∃ y, b % N = y := ⟨_, rfl⟩
        have hxN : x < N := by rw [← hx]; exact Nat.mod_lt _ (by omega)
        have hyN : y < N := by rw [← hy]; exact Nat.mod_lt _ (by omega)
        have hq := asI_len L
        obtain ⟨q, hq0⟩ : ∃ q, (asI L).length = q := ⟨_, rfl⟩
        have HQ := Lib.hid hq0
        have HQR : Hid ((asI (rev L)).length = q) := Lib.hid (by rw [asI_len, rev_len, ← asI_len, hq0])
        rw [hq0]
        rw [hq0] at HK3 hgr
        clear hq hq0
        have e1 : ((a : Int)).tmod (N : Int) = (x : Int) := by rw [← hx]; exact tmod_nat _ _
        have e2 : ((b : Int)).tmod (N : Int) = (y : Int) := by rw [← hy]; exact tmod_nat _ _
        have e3 : IntKind.i64.wrap (a : Int) = (a : Int) := wrap_id (by omega)
        have e4 : IntKind.i64.wrap (b : Int) = (b : Int) := wrap_id (by omega)
        have e5 : IntKind.i64.wrap (x : Int) = (x : Int) := wrap_id (by have := HG.out.le; omega)
        have e6 : IntKind.i64.wrap (y : Int) = (y : Int) := wrap_id (by have := HG.out.le; omega)
        have n0 : ¬ (N : Int) = 0 := by omega
        have n1 : ((N : Int) == 0) = false := beq_false_of_ne n0
        have XN := Lib.hid hxN
        have YN := Lib.hid hyN
        have NN := Lib.hid hN
        clear hx hy hxN hyN hN
        obtain ⟨_, x0, x1⟩ := HK3.out.1
        go_upto_region 3 with fail
        go_region
        clear e1 e2 e3 e4 e5 e6 n0 n1 x0 x1
        obtain ⟨w4, hw4⟩ : ∃ W, w3.drew = W := ⟨_, rfl⟩
        have hk4 : Bx w3.drew w.heap.size (N : Int) A q c ∧ Below w.heap.size w w3.drew := bx_off HK3.out (Below.refl _ _).drew
        rw [hw4] at hk4 ⊢
        have HK4 := Lib.hid hk4
        clear hw4 hk4 HK3
        obtain ⟨_, x0, x1⟩ := HK4.out.1
        go_wp2_with fail
        refine (rev_at HG.out.le HG.out.ln HG.out.ok A c w4 (HA.out.on HK4.out.2) q HQ.out).mono ?_
        rintro e w5 ⟨A5, c5, rfl, k5, b5⟩
        have HK5 := Lib.hid (bx_off HK4.out b5)
        have K5 := Lib.hid k5
        clear k5 b5 x0 x1 HK4
        go_upto_region 5 with fail
        have BX := Bx.new w5 (N : Int) A5 q c5 24
        have BQ := below_alloc w5 (.cells #[.int .i64 (N : Int), .slice A5 q c5] 24)
        obtain ⟨w6, hw6⟩ : ∃ W, w5.alloc (.cells #[.int .i64 (N : Int), .slice A5 q c5] 24) = W := ⟨_, rfl⟩
        have G6 := Lib.hid (hw6 ▸ BX)
        have BW6 := Lib.hid (hw6 ▸ BQ)
        rw [hw6]
        clear hw6 BX BQ
        have HK6 := Lib.hid (bx_off HK5.out BW6.out)
        have K6 := Lib.hid (K5.out.on BW6.out)
        clear K5
        obtain ⟨_, x0, x1⟩ := G6.out
        go_wp2_with fail
        refine (rev_at HG.out.le (Nat.le_trans (Nat.le_of_eq (rev_len L)) HG.out.ln) (ok_rev HG.out.ok) A5 c5 w6 K6.out q HQR.out).mono ?_
        rintro e w7 ⟨A7, c7, rfl, k7, b7⟩
        rw [rev_rev] at k7
        have HK7 := Lib.hid (bx_off HK6.out b7)
        have G7 := Lib.hid (G6.out.on b7)
        have K7 := Lib.hid (K6.out.on b7)
        have M7 := Lib.hid k7
        clear k7 b7 x0 x1 K6 G6 HK6
        go_upto_region 6 with fail
        have BX := Bx.new w7 (N : Int) A7 q c7 24
        have BQ := below_alloc w7 (.cells #[.int .i64 (N : Int), .slice A7 q c7] 24)
        obtain ⟨w8, hw8⟩ : ∃ W, w7.alloc (.cells #[.int .i64 (N : Int), .slice A7 q c7] 24) = W := ⟨_, rfl⟩
        have J8 := Lib.hid (hw8 ▸ BX)
        have BW8 := Lib.hid (hw8 ▸ BQ)
        rw [hw8]
        clear hw8 BX BQ
        have HK8 := Lib.hid (bx_off HK7.out BW8.out)
        have G8 := Lib.hid (G7.out.on BW8.out)
        have K8 := Lib.hid (K7.out.on BW8.out)
        have M8 := Lib.hid (M7.out.on BW8.out)
        clear HK7 G7 K7 M7
        obtain ⟨_, x0, x1⟩ := HK8.out.1
        go_wp2_with fail
        refine (reach_at HG.out.le HG.out.ln HG.out.ok XN.out A c w8 (HA.out.on HK8.out.2) q HQ.out).mono ?_
        rintro e w9 ⟨A9, c9, p, rfl, hp, k9, b9⟩
        have HK9 := Lib.hid (bx_off HK8.out b9)
        have G9 := Lib.hid (G8.out.on b9)
        have J9 := Lib.hid (J8.out.on b9)
        have K9 := Lib.hid (K8.out.on b9)
        have M9 := Lib.hid (M8.out.on b9)
        have P9 := Lib.hid k9
        have HP := Lib.hid hp
        clear hp k9 b9 x0 x1 HK8 G8 J8 K8 M8
        obtain ⟨_, x0, x1⟩ := G9.out
        go_wp2_with fail
        refine (reach_at HG.out.le (Nat.le_trans (Nat.le_of_eq (rev_len L)) HG.out.ln) (ok_rev HG.out.ok) YN.out A5 c5 w9 K9.out q HQR.out).mono ?_
        rintro e w10 ⟨A10, c10, p', rfl, hp', k10, b10⟩
        have HK10 := Lib.hid (bx_off HK9.out b10)
        have G10 := Lib.hid (G9.out.on b10)
        have J10 := Lib.hid (J9.out.on b10)
        have K10 := Lib.hid (K9.out.on b10)
        have M10 := Lib.hid (M9.out.on b10)
        have P10 := Lib.hid (P9.out.on b10)
        have Q10 := Lib.hid k10
        have HP' := Lib.hid hp'
        clear hp' k10 b10 x0 x1 HK9 G9 J9 K9 M9 P9
        obtain ⟨_, x0, x1⟩ := HK10.out.1
        go_wp2_with fail
        refine (order_at HG.out.le HG.out.ln HG.out.ok A c w10 (HA.out.on HK10.out.2) q HQ.out).mono ?_
        rintro e w11 ⟨A11, m11, c11, rfl, b11⟩
        have HK11 := Lib.hid (bx_off HK10.out b11)
        have G11 := Lib.hid (G10.out.on b11)
        have B11 := Lib.hid b11
        obtain ⟨E, hE⟩ : ∃ E, ordE N L = E := ⟨_, rfl⟩
        have HE := Lib.hid hE
        rw [hE]
        clear hE b11 x0 x1
        obtain ⟨_, x0, x1⟩ := G11.out
        go_wp2_with fail
        refine (order_at HG.out.le (Nat.le_trans (Nat.le_of_eq (rev_len L)) HG.out.ln) (ok_rev HG.out.ok) A5 c5 w11 (K10.out.on B11.out) q HQR.out).mono ?_
        rintro e w12 ⟨A12, m12, c12, rfl, b12⟩
        rw [ordE_rev HG.out.ok, HE.out]
        have HK12 := Lib.hid (bx_off HK11.out b12)
        have B12 := Lib.hid (bstep B11.out b12)
        clear b12 x0 x1
        obtain ⟨_, x0, x1⟩ := HK12.out.1
        obtain ⟨t, hy1, hx2, hx1⟩ := two_at HP.out HP'.out XN.out YN.out
        obtain ⟨g9, o9, rfl, l9, y1⟩ := (P10.out.on B12.out) _ _ hy1
        obtain ⟨g9', o9', h9, _, y2⟩ := (P10.out.on B12.out) _ _ hx1
        cases h9
        obtain ⟨g10, o10, rfl, l10, y3⟩ := (Q10.out.on B12.out) _ _ hx2
        obtain ⟨lj, j0, j1⟩ := J10.out.on B12.out
        have HSa := Lib.hid (ref_Same (N : Int) (N : Int) (asI L) (asI L) A7 A c7 c w12.drew ((M10.out.on B12.out).on (Below.refl _ _).drew) ((HA.out.on HK12.out.2).on (Below.refl _ _).drew) (by rw [asI_len]; have := HG.out.ln; omega) (by rw [asI_len]; have := HG.out.ln; omega))
        rw [HQ.out, decide_eq_true (⟨rfl, rfl⟩ : (N : Int) = (N : Int) ∧ asI L = asI L)] at HSa
        have HS : Hid (∀ W, Below w12.heap.size w12 W → ((W.cell? ⟨w.heap.size, 0, none⟩ = some (.int .i64 (N : Int)) ∧ W.cell? ⟨w.heap.size, 1, none⟩ = some (.slice A q c)) ∧ (W.cell? ⟨w7.heap.size, 0, none⟩ = some (.int .i64 (N : Int)) ∧ W.cell? ⟨w7.heap.size, 1, none⟩ = some (.slice A7 q c7))) ∧ (W.cell? ⟨g9, o9 + y, none⟩ = some (.bool t) ∧ W.cell? ⟨g9, o9 + x, none⟩ = some (.bool true) ∧ W.cell? ⟨g10, o10 + x, none⟩ = some (.bool t))) :=
          Lib.hid fun W hW => ⟨⟨⟨(HK12.out.1.on hW).2.1, (HK12.out.1.on hW).2.2⟩, ⟨((J10.out.on B12.out).on hW).2.1, ((J10.out.on B12.out).on hW).2.2⟩⟩, ⟨(hW.cell (p := ⟨g9, o9 + y, none⟩) l9).trans y1, (hW.cell (p := ⟨g9, o9 + x, none⟩) l9).trans y2, (hW.cell (p := ⟨g10, o10 + x, none⟩) l10).trans y3⟩⟩
        have i1 : (x : Int) < (N : Int) := by have := XN.out; omega
        have i2 : (y : Int) < (N : Int) := by have := YN.out; omega
        have i3 : (0 : Int) ≤ (x : Int) := by omega
        have i4 : (0 : Int) ≤ (y : Int) := by omega
        clear y1 y2 y3 hy1 hx2 hx1 j0 j1
        go_wp2_with fail
        go_region_held3 (fun W' => ((W'.cell? ⟨w.heap.size, 0, none⟩ = some (.int .i64 (N : Int)) ∧ W'.cell? ⟨w.heap.size, 1, none⟩ = some (.slice A q c)) ∧ (W'.cell? ⟨w7.heap.size, 0, none⟩ = some (.int .i64 (N : Int)) ∧ W'.cell? ⟨w7.heap.size, 1, none⟩ = some (.slice A7 q c7))) ∧ (W'.cell? ⟨g9, o9 + y, none⟩ = some (.bool t) ∧ W'.cell? ⟨g9, o9 + x, none⟩ = some (.bool true) ∧ W'.cell? ⟨g10, o10 + x, none⟩ = some (.bool t)))
          (first | exact HS.out _ (Below.refl _ _).drew | exact HS.out _ (bstep (Below.refl _ _).drew b13) | exact HS.out _ (bstep (bstep (Below.refl _ _).drew b13) b14))
          (first | (go_at_call 28; (with_reducible refine HSa.out.mono ?_); rintro e w13 ⟨rfl, b13⟩) | (go_at_call 13; (with_reducible refine (awake_true w13).mono ?_); rintro e w14 ⟨rfl, b14⟩))
        all_goals
          go_wp2_with fail
          go_ret
          exact ⟨rfl, bstep HK12.out.2 (bstep (bstep (Below.refl _ _).drew b13) b14)⟩
    · have hz' : (chkE n zs == 0) = false := beq_false_of_ne hz
      obtain ⟨E, hE⟩ : ∃ E, chkE n zs = E := ⟨_, rfl⟩
      rw [hE] at hz hz' ⊢
      clear hE
      obtain ⟨_, x0, x1⟩ := HK3.out.1
      go_wp2_with fail
      refine (awake_true w3).mono ?_
      rintro e w4 ⟨rfl, hb4⟩
      go_wp2_with fail
      go_ret
      exact ⟨rfl, bstep HK3.out.2 hb4⟩
end Go.Proofs.Ytlbknnafecdakaa.Graph
