/- RectPoints -/
import Derived.Test.YtccbnobpighckaaRectQ
import Derived.Test.YtccbnobpighckaaRectV
import Derived.Test.YtccbnobpighckaaRectN
import Derived.Test.YtccbnobpighckaaRectX
import Derived.Deep.RegionHeldLaw
namespace Go.Proofs.Ytccbnobpighckaa.Rect
open Go.ChangeShapes Go.WideShapes Go.RowKit Go.Lib Go.Proofs.Ytccbnobpighckaa.Rw
open Go.Proofs.Ytccbnobpighckaa.Span (hasB hasB_iff IsNf Nrm Sps inS inS_iff)
set_option linter.unusedVariables false
set_option maxRecDepth 100000

theorem cel2 {w : World} {g : Nat} {u0 u1 : Value} (h : Cel w g [u0, u1]) : w.cell? ⟨g, 0, none⟩ = some u0 ∧ w.cell? ⟨g, 1, none⟩ = some u1 := ⟨h.at_ 0 _ rfl, h.at_ 1 _ rfl⟩
abbrev cP (x y : Int) : List Value := [.int .i64 x, .int .i64 y]
set_option maxHeartbeats 800000 in
theorem law_in (r : Rc) (x y : Int) (w : World) :
    Calls Try.prog 34 #[agQ r, .agg #[.int .i64 x, .int .i64 y]] w fun e w' => e = .returned (.bool (inR r x y)) ∧ Below w.heap.size w w' := by
  obtain ⟨V, hV⟩ : ∃ V, inR r x y = V := ⟨_, rfl⟩
  rw [hV]
  have HV := Lib.hid hV
  clear hV
  go_enter Try.func34, Try.ntmps34
  go_upto_region 1 with fail
  obtain ⟨w0, hw0⟩ : ∃ W, (w.alloc (.cells #[.int .i64 r.1, .int .i64 r.2.1, .int .i64 r.2.2.1, .int .i64 r.2.2.2] 23)).alloc (.cells #[.int .i64 x, .int .i64 y] 45) = W := ⟨_, rfl⟩
  have CA : Hid (Cel w0 w.heap.size (cQ r)) := hw0 ▸ (Cel.new w (cQ r) _).alloc _
  have CP : Hid (Cel w0 (w.heap.size + 1) (cP x y)) := hw0 ▸ Cel.new_at _ (cP x y) _ (by simp)
  have B0 : Hid (Below w.heap.size w w0) := hw0 ▸ bstep (below_alloc _ _) (below_alloc _ _)
  rw [hw0]
  clear hw0
  obtain ⟨a0, a1, a2, a3⟩ := cel4 CA.out
  obtain ⟨p0, p1⟩ := cel2 CP.out
  by_cases h0 : r.1 ≤ x
  rotate_left
  · have d0 : decide (r.1 ≤ x) = false := decide_eq_false h0
    obtain rfl : V = false := by rw [← HV.out]; unfold inR; rw [d0]; rfl
    clear h0
    go_wp2_with fail
    go_ret
    exact ⟨rfl, B0.out⟩
  have d0 : decide (r.1 ≤ x) = true := decide_eq_true h0
  by_cases h1 : x < r.2.1
  rotate_left
  · have d1 : decide (x < r.2.1) = false := decide_eq_false h1
    obtain rfl : V = false := by rw [← HV.out]; unfold inR; rw [d0, d1]; rfl
    clear h0 h1
    go_wp2_with fail
    go_ret
    exact ⟨rfl, B0.out⟩
  have d1 : decide (x < r.2.1) = true := decide_eq_true h1
  by_cases h2 : r.2.2.1 ≤ y
  rotate_left
  · have d2 : decide (r.2.2.1 ≤ y) = false := decide_eq_false h2
    obtain rfl : V = false := by rw [← HV.out]; unfold inR; rw [d0, d1, d2]; rfl
    clear h0 h1 h2
    go_wp2_with fail
    go_ret
    exact ⟨rfl, B0.out⟩
  have d2 : decide (r.2.2.1 ≤ y) = true := decide_eq_true h2
  have d3 : decide (y < r.2.2.2) = V := by rw [← HV.out]; unfold inR; rw [d0, d1, d2]; rfl
  clear h0 h1 h2
  go_wp2_with fail
  go_ret
  exact ⟨rfl, B0.out⟩
/-- In how many rectangles of the list a point lies. -/
theorem mu_take {L : List Rc} {k : Nat} {s : Rc} (h : L[k]? = some s) (x y : Int) : mu (L.take (k + 1)) x y = mu (L.take k) x y + b2 (inR s x y) := by rw [take_snoc_of h, mu_snoc]
theorem mu_lim (x y : Int) : ∀ L : List Rc, 0 ≤ mu L x y ∧ mu L x y ≤ (L.length : Int)
  | [] => by simp [mu]
  | r :: L => by
    have ih := mu_lim x y L
    have hb := b2_pos (inR r x y)
    show 0 ≤ b2 (inR r x y) + mu L x y ∧ b2 (inR r x y) + mu L x y ≤ ((L.length + 1 : Nat) : Int)
    omega
theorem set_in {al : Bool} {L : List Rc} {x y : Int} (h : 0 < mu L x y) : setB al L (if al then y else x) = true := by
  obtain ⟨r, hr, hi⟩ := inL_iff.mp (mu_iff.mpr h)
  have hp := in_pt hi
  have hh := inR_iff.mp hi
  unfold setB
  refine List.any_eq_true.mpr ⟨r, hr, ?_⟩
  rw [hp, Bool.true_and]
  cases al with
  | true => exact inS_iff.mpr hh.2
  | false => exact inS_iff.mpr hh.1

set_option maxHeartbeats 6400000 in
theorem walk_RectPoints (w : World) (A : Option Addr) (c : Nat) (L : List Rc) (ha : Rcs w A L) (hcap : L.length ≤ c) (hm : L.length ≤ 9223372036854775807) (r : Rc) (px py : Int) :
    Calls Try.prog 10 #[.slice A L.length c, agQ r, .agg #[.int .i64 px, .int .i64 py]] w fun e w' => e = .returned (.bool true) ∧ Below w.heap.size w w' := by
  have HA := Lib.hid ha
  clear ha hcap
  by_cases hf : (40 : Int) < (L.length : Int)
  · skip
    go_enter Try.func10, Try.ntmps10
    go_upto_region 1 with fail
    obtain ⟨w1_, hw0⟩ : ∃ W, (w.alloc (.cells #[.int .i64 r.1, .int .i64 r.2.1, .int .i64 r.2.2.1, .int .i64 r.2.2.2] 23)).alloc (.cells #[.int .i64 px, .int .i64 py] 45) = W := ⟨_, rfl⟩
    have CR : Hid (Cel w1_ w.heap.size (cQ r)) := hw0 ▸ (Cel.new w (cQ r) _).alloc _
    have CP : Hid (Cel w1_ (w.heap.size + 1) (cP px py)) := hw0 ▸ Cel.new_at _ (cP px py) _ (by simp)
    have B1 : Hid (Below w.heap.size w w1_) := hw0 ▸ bstep (below_alloc _ _) (below_alloc _ _)
    rw [hw0]
    clear hw0
    obtain ⟨r0, r1, r2, r3⟩ := cel4 CR.out
    obtain ⟨p0, p1⟩ := cel2 CP.out
    go_wp2_with fail
    refine (law_awake w1_).mono ?_
    rintro e w2_ ⟨rfl, hb⟩
    have B2 := Lib.hid (bstep B1.out hb)
    replace CR := Lib.hid (CR.out.on hb)
    replace CP := Lib.hid (CP.out.on hb)
    clear hb
    clear r0 r1 r2 r3 p0 p1
    obtain ⟨r0, r1, r2, r3⟩ := cel4 CR.out
    obtain ⟨p0, p1⟩ := cel2 CP.out
    go_wp2_with fail
    go_ret
    exact ⟨rfl, B2.out⟩
  have HL := Lib.hid (show L.length ≤ 40 by omega)
  have HM := Lib.hid (mu_lim px py)
  have HG : Hid (rsE r L = 0 → lsE L = 0 ∧ clV r L = clp r L) := Lib.hid fun h => ⟨(rsE_of h).2, by unfold clV; rw [if_pos h]⟩
  have HC := Lib.hid (clV_len r L)
  have HMC := Lib.hid (mu_clp r px py L)
  have JR := Lib.hid fun W => law_in r px py W
  have K1 := Lib.hid fun (W : World) (h : Rcs W A L) => rect_Clip L A c r W h hm
  have K2 := Lib.hid fun (W : World) (h : Rcs W A L) => rect_Along L A c W h hm
  have K3 := Lib.hid fun (W : World) (h : Rcs W A L) => rect_Across L A c W h hm
  unfold LstR at K1
  unfold SetQ at K2 K3
  obtain ⟨E, hE⟩ : ∃ x, lsE L = x := ⟨_, rfl⟩
  obtain ⟨G, hG⟩ : ∃ x, rsE r L = x := ⟨_, rfl⟩
  obtain ⟨T, hT⟩ : ∃ x, clV r L = x := ⟨_, rfl⟩
  rw [hE, hG, hT] at HG
  rw [hT] at HC
  rw [hT, hG] at K1
  rw [hE] at K2 K3
  clear hE hG hT
  go_enter Try.func10, Try.ntmps10
  go_upto_region 1 with fail
  obtain ⟨w1_, hw0⟩ : ∃ W, (w.alloc (.cells #[.int .i64 r.1, .int .i64 r.2.1, .int .i64 r.2.2.1, .int .i64 r.2.2.2] 23)).alloc (.cells #[.int .i64 px, .int .i64 py] 45) = W := ⟨_, rfl⟩
  have CR : Hid (Cel w1_ w.heap.size (cQ r)) := hw0 ▸ (Cel.new w (cQ r) _).alloc _
  have CP : Hid (Cel w1_ (w.heap.size + 1) (cP px py)) := hw0 ▸ Cel.new_at _ (cP px py) _ (by simp)
  have B1 : Hid (Below w.heap.size w w1_) := hw0 ▸ bstep (below_alloc _ _) (below_alloc _ _)
  rw [hw0]
  clear hw0
  obtain ⟨r0, r1, r2, r3⟩ := cel4 CR.out
  obtain ⟨p0, p1⟩ := cel2 CP.out
  replace HA := Lib.hid (HA.out.on B1.out)
  obtain ⟨wq, rfl⟩ : ∃ W, W = w1_ := ⟨_, rfl⟩
  go_upto_if 25 with fail
  go_cut [7, 8, 25] from 26 to 51 (fun x y z wz => Below wq.heap.size wq wz)
  case first =>
    by_cases hg : (1 : Int) < (L.length : Int)
    rotate_left
    · go_wp2_with fail
      go_meet
      case rel => exact Below.refl _ _
    obtain ⟨a, ha⟩ := get_lt (show 0 < L.length by omega)
    obtain ⟨b, hb⟩ := get_lt (show 1 < L.length by omega)
    obtain ⟨bk, off, rfl, hlt, x0, x1, x2, x3⟩ := rd_at HA.out ha
    obtain ⟨_, _, e, -, y0, y1, y2, y3⟩ := rd_at HA.out hb
    cases e
    have HCm := Lib.hid fun W => rect_Common a b W
    unfold ComP at HCm
    obtain ⟨D, hD⟩ : ∃ D, comB a b = D := ⟨_, rfl⟩
    obtain ⟨V, hV⟩ : ∃ V, comV a b = V := ⟨_, rfl⟩
    have HI := in_comV a b px py
    rw [hV, hD] at HCm
    rw [hV] at HI
    have JC := Lib.hid fun W => law_in V px py W
    have JA := Lib.hid fun W => law_in a px py W
    have JB := Lib.hid fun W => law_in b px py W
    rw [HI] at JC
    obtain ⟨IA, hIA⟩ : ∃ x, inR a px py = x := ⟨_, rfl⟩
    obtain ⟨IB, hIB⟩ : ∃ x, inR b px py = x := ⟨_, rfl⟩
    rw [hIA, hIB] at JC
    rw [hIA] at JA
    rw [hIB] at JB
    clear hIA hIB hV hD HI ha hb
    have i1 : (0 : Int) < (L.length : Int) := by omega
    have i2 : 0 < L.length := by omega
    have i3 : 1 < L.length := by omega
    have i4 : ¬ L = [] := by rintro rfl; simp at i2
    have i5 : L ≠ [] := i4
    simp only [Nat.zero_mul, Nat.one_mul, Nat.add_zero] at x0 x1 x2 x3 y0 y1 y2 y3
    have HX : Hid (∀ W', Below wq.heap.size wq W' → ((W'.cell? ⟨bk, off, none⟩ = some (.int .i64 a.1) ∧ W'.cell? ⟨bk, off + 1, none⟩ = some (.int .i64 a.2.1) ∧ W'.cell? ⟨bk, off + 2, none⟩ = some (.int .i64 a.2.2.1) ∧ W'.cell? ⟨bk, off + 3, none⟩ = some (.int .i64 a.2.2.2)) ∧ (W'.cell? ⟨bk, off + 4, none⟩ = some (.int .i64 b.1) ∧ W'.cell? ⟨bk, off + 4 + 1, none⟩ = some (.int .i64 b.2.1) ∧ W'.cell? ⟨bk, off + 4 + 2, none⟩ = some (.int .i64 b.2.2.1) ∧ W'.cell? ⟨bk, off + 4 + 3, none⟩ = some (.int .i64 b.2.2.2))) ∧ W'.cell? ⟨w.heap.size + 1, 0, none⟩ = some (.int .i64 px) ∧ W'.cell? ⟨w.heap.size + 1, 1, none⟩ = some (.int .i64 py)) := Lib.hid fun W hW => ⟨⟨⟨(hW.cell (p := ⟨bk, off, none⟩) hlt).trans x0, (hW.cell (p := ⟨bk, off + 1, none⟩) hlt).trans x1, (hW.cell (p := ⟨bk, off + 2, none⟩) hlt).trans x2, (hW.cell (p := ⟨bk, off + 3, none⟩) hlt).trans x3⟩, (hW.cell (p := ⟨bk, off + 4, none⟩) hlt).trans y0, (hW.cell (p := ⟨bk, off + 4 + 1, none⟩) hlt).trans y1, (hW.cell (p := ⟨bk, off + 4 + 2, none⟩) hlt).trans y2, (hW.cell (p := ⟨bk, off + 4 + 3, none⟩) hlt).trans y3⟩, cel2 (CP.out.on hW)⟩
    go_upto_region 4 with fail
    go_cut [7, 8, 25] from 26 to 35 (fun x y z wz => ∃ g, x = .pointer (some ⟨g, 0, none⟩) ∧ y = .bool D ∧ z = .bool true ∧ Cel wz g (cQ V) ∧ wq.heap.size ≤ g ∧ Below wq.heap.size wq wz)
    case first =>
      go_region_with ((go_at_call 13; (refine (HCm.out _).mono ?_); rintro e w4 ⟨rfl, hb4⟩; (first | (have hz4 := Lib.hid (after_zero hb4); obtain ⟨z0, z1, z2, z3⟩ := cel4 hz4.out; obtain ⟨v0, v1, v2, v3⟩ := warm4 hz4.out) | skip)))
      all_goals
        have hbw := cl_below (w := wq) (by first | exact Or.inl hb4 | exact Or.inr hb4)
        go_wp2_with fail
        go_meet
        case rel => first
          | exact ⟨_, rfl, rfl, rfl, Cel.new w4 (cQ V) _, hbw.size, bstep hbw (below_alloc _ _)⟩
          | exact ⟨_, rfl, rfl, rfl, cel_put4 hz4.out _ _ _ _, Nat.le_refl _, below_put4 hbw (Nat.le_refl _) _ _ _ _⟩
    case rest =>
      obtain ⟨g, rfl, rfl, rfl, hcv, -, hbc⟩ := hcut
      clear x0 x1 x2 x3 y0 y1 y2 y3
      have HX2 : Hid (∀ W', Below wc.heap.size wc W' → (W'.cell? ⟨g, 0, none⟩ = some (.int .i64 V.1) ∧ W'.cell? ⟨g, 1, none⟩ = some (.int .i64 V.2.1) ∧ W'.cell? ⟨g, 2, none⟩ = some (.int .i64 V.2.2.1) ∧ W'.cell? ⟨g, 3, none⟩ = some (.int .i64 V.2.2.2)) ∧ (((W'.cell? ⟨bk, off, none⟩ = some (.int .i64 a.1) ∧ W'.cell? ⟨bk, off + 1, none⟩ = some (.int .i64 a.2.1) ∧ W'.cell? ⟨bk, off + 2, none⟩ = some (.int .i64 a.2.2.1) ∧ W'.cell? ⟨bk, off + 3, none⟩ = some (.int .i64 a.2.2.2)) ∧ (W'.cell? ⟨bk, off + 4, none⟩ = some (.int .i64 b.1) ∧ W'.cell? ⟨bk, off + 4 + 1, none⟩ = some (.int .i64 b.2.1) ∧ W'.cell? ⟨bk, off + 4 + 2, none⟩ = some (.int .i64 b.2.2.1) ∧ W'.cell? ⟨bk, off + 4 + 3, none⟩ = some (.int .i64 b.2.2.2))) ∧ W'.cell? ⟨w.heap.size + 1, 0, none⟩ = some (.int .i64 px) ∧ W'.cell? ⟨w.heap.size + 1, 1, none⟩ = some (.int .i64 py))) := Lib.hid fun W hW => ⟨cel4 (hcv.on hW), HX.out _ (bstep hbc hW)⟩
      have HBc := Lib.hid hbc
      clear hcv HX hbc
      obtain ⟨wy, rfl⟩ : ∃ W, W = wc := ⟨wc, rfl⟩
      obtain ⟨⟨c0, c1, c2, c3⟩, ⟨⟨x0, x1, x2, x3⟩, y0, y1, y2, y3⟩, u0, u1⟩ := HX2.out _ (Below.refl _ _)
      clear r0 r1 r2 r3 p0 p1
      cases IA with
      | false =>
        simp only [Bool.false_and] at JC
        go_wp2_with fail
        refine wp_region_held_drew (S := (fun W' => (W'.cell? ⟨g, 0, none⟩ = some (.int .i64 V.1) ∧ W'.cell? ⟨g, 1, none⟩ = some (.int .i64 V.2.1) ∧ W'.cell? ⟨g, 2, none⟩ = some (.int .i64 V.2.2.1) ∧ W'.cell? ⟨g, 3, none⟩ = some (.int .i64 V.2.2.2)) ∧ (((W'.cell? ⟨bk, off, none⟩ = some (.int .i64 a.1) ∧ W'.cell? ⟨bk, off + 1, none⟩ = some (.int .i64 a.2.1) ∧ W'.cell? ⟨bk, off + 2, none⟩ = some (.int .i64 a.2.2.1) ∧ W'.cell? ⟨bk, off + 3, none⟩ = some (.int .i64 a.2.2.2)) ∧ (W'.cell? ⟨bk, off + 4, none⟩ = some (.int .i64 b.1) ∧ W'.cell? ⟨bk, off + 4 + 1, none⟩ = some (.int .i64 b.2.1) ∧ W'.cell? ⟨bk, off + 4 + 2, none⟩ = some (.int .i64 b.2.2.1) ∧ W'.cell? ⟨bk, off + 4 + 3, none⟩ = some (.int .i64 b.2.2.2))) ∧ W'.cell? ⟨w.heap.size + 1, 0, none⟩ = some (.int .i64 px) ∧ W'.cell? ⟨w.heap.size + 1, 1, none⟩ = some (.int .i64 py)))) (by kernel_rfl) (HX2.out _ (drew_below _)) (fun hHeld => ?_)
        refine wpAnyH_take (i := 0) (oi := { dst := some 36, op := Op.load 23 (Operand.tmp 7), type := 23, pos := "law.go:148", after := #[], guard := none }) (v := ?_) rfl (by kernel_rfl) (by kernel_rfl) (by kernel_rfl) (fun _ _ _ h => h) (Or.inl ⟨by rfl, ?_⟩) (by assumption) ?_
        rotate_left
        · intro w hSw
          (try dsimp only at hSw)
          go_simp
          try with_reducible rfl
        try simp only [Act.put, List.setIfInBounds_toArray, List.set_cons_zero, List.set_cons_succ]
        refine wpAnyH_take (i := 1) (oi := { dst := some 37, op := Op.load 45 (Operand.tmp 5), type := 45, pos := "law.go:148", after := #[], guard := none }) (v := ?_) rfl (by kernel_rfl) (by kernel_rfl) (by kernel_rfl) (fun _ _ _ h => h) (Or.inl ⟨by rfl, ?_⟩) (by assumption) ?_
        rotate_left
        · intro w hSw
          (try dsimp only at hSw)
          go_simp
          try with_reducible rfl
        try simp only [Act.put, List.setIfInBounds_toArray, List.set_cons_zero, List.set_cons_succ]
        refine wpAnyH_take (i := 3) (oi := { dst := some 39, op := Op.move (Operand.tmp 0), type := 32, pos := "law.go:148", after := #[], guard := none }) (v := ?_) rfl (by kernel_rfl) (by kernel_rfl) (by kernel_rfl) (fun _ _ _ h => h) (Or.inl ⟨by rfl, ?_⟩) (by assumption) ?_
        rotate_left
        · intro w hSw
          (try dsimp only at hSw)
          go_simp
          try with_reducible rfl
        try simp only [Act.put, List.setIfInBounds_toArray, List.set_cons_zero, List.set_cons_succ]
        refine wpAnyH_take (i := 4) (oi := { dst := some 40, op := Op.indexAddr 32 (Operand.tmp 39) (Operand.const (Value.int IntKind.i64 0)), type := 0, pos := "law.go:148", after := #[{ on := 3, ground := Ground.data }], guard := none }) (v := ?_) rfl (by kernel_rfl) (by kernel_rfl) (by kernel_rfl) (fun _ _ _ h => h) (Or.inl ⟨by rfl, ?_⟩) (by assumption) ?_
        rotate_left
        · intro w hSw
          (try dsimp only at hSw)
          go_simp
          try with_reducible rfl
        try simp only [Act.put, List.setIfInBounds_toArray, List.set_cons_zero, List.set_cons_succ]
        refine wpAnyH_take (i := 5) (oi := { dst := some 41, op := Op.load 23 (Operand.tmp 40), type := 23, pos := "law.go:148", after := #[{ on := 4, ground := Ground.data }], guard := none }) (v := ?_) rfl (by kernel_rfl) (by kernel_rfl) (by kernel_rfl) (fun _ _ _ h => h) (Or.inl ⟨by rfl, ?_⟩) (by assumption) ?_
        rotate_left
        · intro w hSw
          (try dsimp only at hSw)
          go_simp
          try with_reducible rfl
        try simp only [Act.put, List.setIfInBounds_toArray, List.set_cons_zero, List.set_cons_succ]
        refine wpAnyH_take (i := 6) (oi := { dst := some 42, op := Op.load 45 (Operand.tmp 5), type := 45, pos := "law.go:148", after := #[], guard := none }) (v := ?_) rfl (by kernel_rfl) (by kernel_rfl) (by kernel_rfl) (fun _ _ _ h => h) (Or.inl ⟨by rfl, ?_⟩) (by assumption) ?_
        rotate_left
        · intro w hSw
          (try dsimp only at hSw)
          go_simp
          try with_reducible rfl
        try simp only [Act.put, List.setIfInBounds_toArray, List.set_cons_zero, List.set_cons_succ]
        refine wpAnyH_ready (rs := [2]) (by kernel_rfl) (by simp) ?_
        refine AllReadyH.cons (o := { dst := some 38, op := Op.call { callee := Callee.value (Operand.func 34), args := #[Operand.tmp 36, Operand.tmp 37], argTypes := #[23, 45] }, type := 4, pos := "law.go:148", after := #[{ on := 0, ground := Ground.data }, { on := 1, ground := Ground.data }], guard := none }) rfl (fun K hK => ?_) AllReadyH.nil
        go_simp
        go_at_call 34
        (refine (JC.out _).mono ?_)
        rintro e v1 ⟨rfl, d1⟩
        have HBL := Lib.hid (bstep (drew_below _) d1)
        clear d1
        go_wp2_with fail
        refine hK.out _ _ ?_ (fun hHeld => ?_)
        · (try dsimp only)
          exact HX2.out _ HBL.out
        clear hK K
        try simp only [Act.put, List.setIfInBounds_toArray, List.set_cons_zero, List.set_cons_succ]
        refine wpAnyH_ready (rs := [7]) (by kernel_rfl) (by simp) ?_
        refine AllReadyH.cons (o := { dst := some 43, op := Op.call { callee := Callee.value (Operand.func 34), args := #[Operand.tmp 41, Operand.tmp 42], argTypes := #[23, 45] }, type := 4, pos := "law.go:148", after := #[{ on := 5, ground := Ground.data }, { on := 6, ground := Ground.data }, { on := 2, ground := Ground.chain }], guard := none }) rfl (fun K hK => ?_) AllReadyH.nil
        go_simp
        go_at_call 34
        (refine (JA.out _).mono ?_)
        rintro e v2 ⟨rfl, d2⟩
        have HBL := Lib.hid (bstep HBL.out d2)
        clear d2
        go_wp2_with fail
        refine hK.out _ _ ?_ (fun hHeld => ?_)
        · (try dsimp only)
          exact HX2.out _ HBL.out
        clear hK K
        try simp only [Act.put, List.setIfInBounds_toArray, List.set_cons_zero, List.set_cons_succ]
        refine wpAnyH_take (i := 8) (oi := { dst := some 44, op := Op.move (Operand.tmp 43), type := 4, pos := "law.go:148", after := #[{ on := 7, ground := Ground.data }, { on := 7, ground := Ground.chain }], guard := none }) (v := ?_) rfl (by kernel_rfl) (by kernel_rfl) (by kernel_rfl) (fun _ _ _ h => h) (Or.inl ⟨by rfl, ?_⟩) (by assumption) ?_
        rotate_left
        · intro w hSw
          (try dsimp only at hSw)
          go_simp
          try with_reducible rfl
        try simp only [Act.put, List.setIfInBounds_toArray, List.set_cons_zero, List.set_cons_succ]
        refine wpAnyH_take (i := 9) (oi := { dst := some 45, op := Op.move (Operand.tmp 0), type := 32, pos := "law.go:148", after := #[{ on := 8, ground := Ground.guard }], guard := some (8, true) }) (v := undef) rfl (by kernel_rfl) (by kernel_rfl) (by kernel_rfl) (fun _ _ _ h => h) (Or.inr ⟨by kernel_rfl, rfl⟩) (by assumption) ?_
        try simp only [Act.put, List.setIfInBounds_toArray, List.set_cons_zero, List.set_cons_succ]
        refine wpAnyH_take (i := 10) (oi := { dst := some 46, op := Op.indexAddr 32 (Operand.tmp 45) (Operand.const (Value.int IntKind.i64 1)), type := 0, pos := "law.go:148", after := #[{ on := 9, ground := Ground.data }, { on := 8, ground := Ground.guard }], guard := some (8, true) }) (v := undef) rfl (by kernel_rfl) (by kernel_rfl) (by kernel_rfl) (fun _ _ _ h => h) (Or.inr ⟨by kernel_rfl, rfl⟩) (by assumption) ?_
        try simp only [Act.put, List.setIfInBounds_toArray, List.set_cons_zero, List.set_cons_succ]
        refine wpAnyH_take (i := 11) (oi := { dst := some 47, op := Op.load 23 (Operand.tmp 46), type := 23, pos := "law.go:148", after := #[{ on := 10, ground := Ground.data }, { on := 8, ground := Ground.guard }], guard := some (8, true) }) (v := undef) rfl (by kernel_rfl) (by kernel_rfl) (by kernel_rfl) (fun _ _ _ h => h) (Or.inr ⟨by kernel_rfl, rfl⟩) (by assumption) ?_
        try simp only [Act.put, List.setIfInBounds_toArray, List.set_cons_zero, List.set_cons_succ]
        refine wpAnyH_take (i := 12) (oi := { dst := some 48, op := Op.load 45 (Operand.tmp 5), type := 45, pos := "law.go:148", after := #[{ on := 8, ground := Ground.guard }], guard := some (8, true) }) (v := undef) rfl (by kernel_rfl) (by kernel_rfl) (by kernel_rfl) (fun _ _ _ h => h) (Or.inr ⟨by kernel_rfl, rfl⟩) (by assumption) ?_
        try simp only [Act.put, List.setIfInBounds_toArray, List.set_cons_zero, List.set_cons_succ]
        refine wpAnyH_take (i := 13) (oi := { dst := some 49, op := Op.call { callee := Callee.value (Operand.func 34), args := #[Operand.tmp 47, Operand.tmp 48], argTypes := #[23, 45] }, type := 4, pos := "law.go:148", after := #[{ on := 11, ground := Ground.data }, { on := 12, ground := Ground.data }, { on := 8, ground := Ground.chain }, { on := 8, ground := Ground.guard }], guard := some (8, true) }) (v := undef) rfl (by kernel_rfl) (by kernel_rfl) (by kernel_rfl) (fun _ _ _ h => h) (Or.inr ⟨by kernel_rfl, rfl⟩) (by assumption) ?_
        try simp only [Act.put, List.setIfInBounds_toArray, List.set_cons_zero, List.set_cons_succ]
        refine wpAnyH_take (i := 14) (oi := { dst := some 50, op := Op.pick (Operand.tmp 44) (Operand.tmp 49) (Operand.const (Value.bool false)), type := 4, pos := "law.go:148", after := #[{ on := 8, ground := Ground.data }, { on := 13, ground := Ground.data }], guard := none }) (v := ?_) rfl (by kernel_rfl) (by kernel_rfl) (by kernel_rfl) (fun _ _ _ h => h) (Or.inl ⟨by rfl, ?_⟩) (by assumption) ?_
        rotate_left
        · intro w hSw
          (try dsimp only at hSw)
          go_simp
          try with_reducible rfl
        try simp only [Act.put, List.setIfInBounds_toArray, List.set_cons_zero, List.set_cons_succ]
        refine wpAnyH_take (i := 15) (oi := { dst := some 51, op := Op.binOp BinOp.neq 4 (Operand.tmp 38) (Operand.tmp 50) 4, type := 4, pos := "law.go:148", after := #[{ on := 2, ground := Ground.data }, { on := 14, ground := Ground.data }], guard := none }) (v := ?_) rfl (by kernel_rfl) (by kernel_rfl) (by kernel_rfl) (fun _ _ _ h => h) (Or.inl ⟨by rfl, ?_⟩) (by assumption) ?_
        rotate_left
        · intro w hSw
          (try dsimp only at hSw)
          go_simp
          try with_reducible rfl
        try simp only [Act.put, List.setIfInBounds_toArray, List.set_cons_zero, List.set_cons_succ]
        refine wpAnyH_done (by kernel_rfl) ?_ _
        go_wp2_with fail
        go_meet
        case rel => exact bstep HBc.out HBL.out
        | true =>
          simp only [Bool.true_and] at JC
          go_wp2_with fail
          go_region_held3 (fun W' => (W'.cell? ⟨g, 0, none⟩ = some (.int .i64 V.1) ∧ W'.cell? ⟨g, 1, none⟩ = some (.int .i64 V.2.1) ∧ W'.cell? ⟨g, 2, none⟩ = some (.int .i64 V.2.2.1) ∧ W'.cell? ⟨g, 3, none⟩ = some (.int .i64 V.2.2.2)) ∧ (((W'.cell? ⟨bk, off, none⟩ = some (.int .i64 a.1) ∧ W'.cell? ⟨bk, off + 1, none⟩ = some (.int .i64 a.2.1) ∧ W'.cell? ⟨bk, off + 2, none⟩ = some (.int .i64 a.2.2.1) ∧ W'.cell? ⟨bk, off + 3, none⟩ = some (.int .i64 a.2.2.2)) ∧ (W'.cell? ⟨bk, off + 4, none⟩ = some (.int .i64 b.1) ∧ W'.cell? ⟨bk, off + 4 + 1, none⟩ = some (.int .i64 b.2.1) ∧ W'.cell? ⟨bk, off + 4 + 2, none⟩ = some (.int .i64 b.2.2.1) ∧ W'.cell? ⟨bk, off + 4 + 3, none⟩ = some (.int .i64 b.2.2.2))) ∧ W'.cell? ⟨w.heap.size + 1, 0, none⟩ = some (.int .i64 px) ∧ W'.cell? ⟨w.heap.size + 1, 1, none⟩ = some (.int .i64 py)))
            (first | exact HX2.out _ (Below.refl _ _) | exact HX2.out _ (drew_below _) | exact HX2.out _ HBL.out)
            ((first | (go_at_call 34; (with_reducible refine (JC.out _).mono ?_); rintro e v1 ⟨rfl, d1⟩; (have HBL := (by first | exact Lib.hid (bstep (drew_below _) d1) | exact Lib.hid (bstep HBL.out d1) : Hid (Below wy.heap.size wy v1))); clear d1) | (go_at_call 34; (with_reducible refine (JA.out _).mono ?_); rintro e v2 ⟨rfl, d2⟩; (have HBL := (by first | exact Lib.hid (bstep (drew_below _) d2) | exact Lib.hid (bstep HBL.out d2) : Hid (Below wy.heap.size wy v2))); clear d2) | (go_at_call 34; (with_reducible refine (JB.out _).mono ?_); rintro e v3 ⟨rfl, d3⟩; (have HBL := (by first | exact Lib.hid (bstep (drew_below _) d3) | exact Lib.hid (bstep HBL.out d3) : Hid (Below wy.heap.size wy v3))); clear d3)))
          all_goals
            go_wp2_with fail
            go_meet
            case rel => exact bstep HBc.out HBL.out
  case rest =>
    have hbc := hcut
    clear hcut
    clear r0 r1 r2 r3 p0 p1
    have B2 := Lib.hid (bstep B1.out hbc)
    replace CR := Lib.hid (CR.out.on hbc)
    replace CP := Lib.hid (CP.out.on hbc)
    replace HA := Lib.hid (HA.out.on hbc)
    clear hbc
    obtain ⟨wx, rfl⟩ : ∃ W, W = wc := ⟨wc, rfl⟩
    obtain ⟨r0, r1, r2, r3⟩ := cel4 CR.out
    obtain ⟨p0, p1⟩ := cel2 CP.out
    go_wp2_with fail
    refine (K1.out wx HA.out).mono ?_
    rintro e w2_ ⟨A1, c1, rfl, -, hs, hb⟩
    have B3 := Lib.hid (bstep B2.out hb)
    replace CR := Lib.hid (CR.out.on hb)
    replace CP := Lib.hid (CP.out.on hb)
    replace HA := Lib.hid (HA.out.on hb)
    have S1 := Lib.hid hs
    clear hs
    clear hb
    clear r0 r1 r2 r3 p0 p1
    obtain ⟨r0, r1, r2, r3⟩ := cel4 CR.out
    obtain ⟨p0, p1⟩ := cel2 CP.out
    go_wp2_with fail
    refine (K2.out w2_ HA.out).mono ?_
    rintro e w3_ ⟨M2, A2, c2, rfl, hl, hs, hn, hz, hb⟩
    have B4 := Lib.hid (bstep B3.out hb)
    replace CR := Lib.hid (CR.out.on hb)
    replace CP := Lib.hid (CP.out.on hb)
    replace HA := Lib.hid (HA.out.on hb)
    replace S1 := Lib.hid (S1.out.on hb)
    have S2 := Lib.hid hs
    have N2 := Lib.hid (And.intro hl hn)
    clear hs hl hn hz
    clear hb
    clear r0 r1 r2 r3 p0 p1
    obtain ⟨r0, r1, r2, r3⟩ := cel4 CR.out
    obtain ⟨p0, p1⟩ := cel2 CP.out
    go_wp2_with fail
    refine (K3.out w3_ HA.out).mono ?_
    rintro e w4_ ⟨M3, A3, c3, rfl, hl, hs, hn, hz, hb⟩
    have B5 := Lib.hid (bstep B4.out hb)
    replace CR := Lib.hid (CR.out.on hb)
    replace CP := Lib.hid (CP.out.on hb)
    replace HA := Lib.hid (HA.out.on hb)
    replace S1 := Lib.hid (S1.out.on hb)
    replace S2 := Lib.hid (sps_on S2.out hb)
    have S3 := Lib.hid hs
    have N3 := Lib.hid (And.intro hl hn)
    clear hs hl hn hz
    clear hb
    clear r0 r1 r2 r3 p0 p1
    obtain ⟨r0, r1, r2, r3⟩ := cel4 CR.out
    obtain ⟨p0, p1⟩ := cel2 CP.out
    by_cases hz : G = 0
    rotate_left
    · obtain ⟨z1, z2⟩ := ne_tests hz
      go_wp2_with fail
      refine (law_awake w4_).mono ?_
      rintro e w5_ ⟨rfl, hb⟩
      have B6 := Lib.hid (bstep B5.out hb)
      replace CR := Lib.hid (CR.out.on hb)
      replace CP := Lib.hid (CP.out.on hb)
      replace HA := Lib.hid (HA.out.on hb)
      replace S1 := Lib.hid (S1.out.on hb)
      replace S2 := Lib.hid (sps_on S2.out hb)
      replace S3 := Lib.hid (sps_on S3.out hb)
      clear hb
      clear r0 r1 r2 r3 p0 p1
      obtain ⟨r0, r1, r2, r3⟩ := cel4 CR.out
      obtain ⟨p0, p1⟩ := cel2 CP.out
      go_wp2_with fail
      go_ret
      exact ⟨rfl, B6.out⟩
    subst hz
    obtain ⟨rfl, ht⟩ := HG.out rfl
    subst ht
    go_wp2_with fail
    clear r0 r1 r2 r3 p0 p1
    go_loopw [15, 17] (fun nv iv wr => ∃ k : Nat, k ≤ L.length ∧ iv = .int .i64 k ∧ nv = .int .i64 (mu (L.take k) px py) ∧ Below w4_.heap.size w4_ wr) (fun _ i _ => L.length - (RowKit.intOf i).toNat)
    case atStart => exact ⟨0, Nat.zero_le _, rfl, rfl, Below.refl _ _⟩
    case round =>
      obtain ⟨k, hk, rfl, rfl, hbel⟩ := hrel
      have HB := Lib.hid hbel
      clear hbel
      obtain ⟨wz, rfl⟩ : ∃ W, W = wr := ⟨wr, rfl⟩
      rcases Nat.lt_or_ge k L.length with hlt | hge
      · obtain ⟨s, hs⟩ := get_lt hlt
        obtain ⟨b, off, rfl, hb, e0, e1, e2, e3⟩ := rd_at (HA.out.on HB.out) hs
        have HN := Lib.hid (mu_take hs px py)
        have hlim := HM.out (L.take k)
        rw [List.length_take, Nat.min_eq_left hk] at hlim
        have JS := Lib.hid fun W => law_in s px py W
        obtain ⟨S, hS⟩ : ∃ x, mu (L.take k) px py = x := ⟨_, rfl⟩
        obtain ⟨I, hI⟩ : ∃ x, inR s px py = x := ⟨_, rfl⟩
        rw [hS] at hlim HN ⊢
        rw [hI] at HN JS
        have hle := HL.out
        have HS : Hid (∀ W', Below wz.heap.size wz W' → (W'.cell? ⟨b, off + k * 4, none⟩ = some (.int .i64 s.1) ∧ W'.cell? ⟨b, off + k * 4 + 1, none⟩ = some (.int .i64 s.2.1) ∧ W'.cell? ⟨b, off + k * 4 + 2, none⟩ = some (.int .i64 s.2.2.1) ∧ W'.cell? ⟨b, off + k * 4 + 3, none⟩ = some (.int .i64 s.2.2.2)) ∧ W'.cell? ⟨w.heap.size + 1, 0, none⟩ = some (.int .i64 px) ∧ W'.cell? ⟨w.heap.size + 1, 1, none⟩ = some (.int .i64 py)) := Lib.hid fun W hW => ⟨⟨(hW.cell (p := ⟨b, off + k * 4, none⟩) hb).trans e0, (hW.cell (p := ⟨b, off + k * 4 + 1, none⟩) hb).trans e1, (hW.cell (p := ⟨b, off + k * 4 + 2, none⟩) hb).trans e2, (hW.cell (p := ⟨b, off + k * 4 + 3, none⟩) hb).trans e3⟩, cel2 ((CP.out.on HB.out).on hW)⟩
        clear hS hI hs
        have i1 : (k : Int) < (L.length : Int) := by omega
        have i2 : (0 : Int) ≤ (k : Int) := by omega
        obtain ⟨p0, p1⟩ := cel2 (CP.out.on HB.out)
        cases I with
        | false =>
          go_wp2_with fail
          go_region_held3 (fun W' => (W'.cell? ⟨b, off + k * 4, none⟩ = some (.int .i64 s.1) ∧ W'.cell? ⟨b, off + k * 4 + 1, none⟩ = some (.int .i64 s.2.1) ∧ W'.cell? ⟨b, off + k * 4 + 2, none⟩ = some (.int .i64 s.2.2.1) ∧ W'.cell? ⟨b, off + k * 4 + 3, none⟩ = some (.int .i64 s.2.2.2)) ∧ W'.cell? ⟨w.heap.size + 1, 0, none⟩ = some (.int .i64 px) ∧ W'.cell? ⟨w.heap.size + 1, 1, none⟩ = some (.int .i64 py))
            (first | exact HS.out _ (Below.refl _ _).drew | exact HS.out _ (bstep (Below.refl _ _).drew d1))
            (first | (go_at_call 34; (with_reducible refine (JS.out _).mono ?_); rintro e v1 ⟨rfl, d1⟩))
          all_goals
            have HB1 := Lib.hid (HB.out.trans ((bstep (Below.refl _ _).drew d1).mono HB.out.size))
            clear d1
            go_wp2_with fail
            go_roundw
            case rel => exact ⟨k + 1, by omega, by go_num, by rw [HN.out]; simp [b2], HB1.out⟩
            case measure => simp [RowKit.intOf]; omega
        | true =>
          go_wp2_with fail
          go_region_held3 (fun W' => (W'.cell? ⟨b, off + k * 4, none⟩ = some (.int .i64 s.1) ∧ W'.cell? ⟨b, off + k * 4 + 1, none⟩ = some (.int .i64 s.2.1) ∧ W'.cell? ⟨b, off + k * 4 + 2, none⟩ = some (.int .i64 s.2.2.1) ∧ W'.cell? ⟨b, off + k * 4 + 3, none⟩ = some (.int .i64 s.2.2.2)) ∧ W'.cell? ⟨w.heap.size + 1, 0, none⟩ = some (.int .i64 px) ∧ W'.cell? ⟨w.heap.size + 1, 1, none⟩ = some (.int .i64 py))
            (first | exact HS.out _ (Below.refl _ _).drew | exact HS.out _ (bstep (Below.refl _ _).drew d1))
            (first | (go_at_call 34; (with_reducible refine (JS.out _).mono ?_); rintro e v1 ⟨rfl, d1⟩))
          all_goals
            have HB1 := Lib.hid (HB.out.trans ((bstep (Below.refl _ _).drew d1).mono HB.out.size))
            clear d1
            go_wp2_with fail
            go_roundw
            case rel => exact ⟨k + 1, by omega, by go_num, by rw [HN.out]; simp [b2], HB1.out⟩
            case measure => simp [RowKit.intOf]; omega
      · obtain rfl : k = L.length := by omega
        rw [List.take_length]
        have B6 := Lib.hid (bstep B5.out HB.out)
        replace CR := Lib.hid (CR.out.on HB.out)
        replace CP := Lib.hid (CP.out.on HB.out)
        replace HA := Lib.hid (HA.out.on HB.out)
        replace S1 := Lib.hid (S1.out.on HB.out)
        replace S2 := Lib.hid (sps_on S2.out HB.out)
        replace S3 := Lib.hid (sps_on S3.out HB.out)
        have HBz := HB
        clear HB
        obtain ⟨r0, r1, r2, r3⟩ := cel4 CR.out
        obtain ⟨p0, p1⟩ := cel2 CP.out
        have HML := Lib.hid (HM.out L)
        obtain ⟨NN, hNN⟩ : ∃ x, mu L px py = x := ⟨_, rfl⟩
        have HNN := Lib.hid hNN
        rw [hNN] at HMC HML ⊢
        clear hNN
        go_wp2_with fail
        clear r0 r1 r2 r3 p0 p1
        obtain ⟨wy, rfl⟩ : ∃ W, W = wz := ⟨wz, rfl⟩
        go_loopw [16, 18] (fun nv iv wr => ∃ k : Nat, k ≤ (clp r L).length ∧ iv = .int .i64 k ∧ nv = .int .i64 (mu ((clp r L).take k) px py) ∧ Below wy.heap.size wy wr) (fun _ i _ => (clp r L).length - (RowKit.intOf i).toNat)
        case atStart => exact ⟨0, Nat.zero_le _, rfl, rfl, Below.refl _ _⟩
        case round =>
          obtain ⟨k, hk, rfl, rfl, hbel⟩ := hrel
          have HB := Lib.hid hbel
          clear hbel
          obtain ⟨wz, rfl⟩ : ∃ W, W = wr := ⟨wr, rfl⟩
          rcases Nat.lt_or_ge k (clp r L).length with hlt | hge
          · obtain ⟨s, hs⟩ := get_lt hlt
            obtain ⟨b, off, rfl, hb, e0, e1, e2, e3⟩ := rd_at (S1.out.on HB.out) hs
            have HN := Lib.hid (mu_take hs px py)
            have hlim := HM.out ((clp r L).take k)
            rw [List.length_take, Nat.min_eq_left hk] at hlim
            have JS := Lib.hid fun W => law_in s px py W
            obtain ⟨S, hS⟩ : ∃ x, mu ((clp r L).take k) px py = x := ⟨_, rfl⟩
            obtain ⟨I, hI⟩ : ∃ x, inR s px py = x := ⟨_, rfl⟩
            rw [hS] at hlim HN ⊢
            rw [hI] at HN JS
            have hle := Nat.le_trans HC.out HL.out
            have HS : Hid (∀ W', Below wz.heap.size wz W' → (W'.cell? ⟨b, off + k * 4, none⟩ = some (.int .i64 s.1) ∧ W'.cell? ⟨b, off + k * 4 + 1, none⟩ = some (.int .i64 s.2.1) ∧ W'.cell? ⟨b, off + k * 4 + 2, none⟩ = some (.int .i64 s.2.2.1) ∧ W'.cell? ⟨b, off + k * 4 + 3, none⟩ = some (.int .i64 s.2.2.2)) ∧ W'.cell? ⟨w.heap.size + 1, 0, none⟩ = some (.int .i64 px) ∧ W'.cell? ⟨w.heap.size + 1, 1, none⟩ = some (.int .i64 py)) := Lib.hid fun W hW => ⟨⟨(hW.cell (p := ⟨b, off + k * 4, none⟩) hb).trans e0, (hW.cell (p := ⟨b, off + k * 4 + 1, none⟩) hb).trans e1, (hW.cell (p := ⟨b, off + k * 4 + 2, none⟩) hb).trans e2, (hW.cell (p := ⟨b, off + k * 4 + 3, none⟩) hb).trans e3⟩, cel2 ((CP.out.on HB.out).on hW)⟩
            clear hS hI hs
            have i1 : (k : Int) < ((clp r L).length : Int) := by omega
            have i2 : (0 : Int) ≤ (k : Int) := by omega
            obtain ⟨p0, p1⟩ := cel2 (CP.out.on HB.out)
            cases I with
            | false =>
              go_wp2_with fail
              go_region_held3 (fun W' => (W'.cell? ⟨b, off + k * 4, none⟩ = some (.int .i64 s.1) ∧ W'.cell? ⟨b, off + k * 4 + 1, none⟩ = some (.int .i64 s.2.1) ∧ W'.cell? ⟨b, off + k * 4 + 2, none⟩ = some (.int .i64 s.2.2.1) ∧ W'.cell? ⟨b, off + k * 4 + 3, none⟩ = some (.int .i64 s.2.2.2)) ∧ W'.cell? ⟨w.heap.size + 1, 0, none⟩ = some (.int .i64 px) ∧ W'.cell? ⟨w.heap.size + 1, 1, none⟩ = some (.int .i64 py))
                (first | exact HS.out _ (Below.refl _ _).drew | exact HS.out _ (bstep (Below.refl _ _).drew d1))
                (first | (go_at_call 34; (with_reducible refine (JS.out _).mono ?_); rintro e v1 ⟨rfl, d1⟩))
              all_goals
                have HB1 := Lib.hid (HB.out.trans ((bstep (Below.refl _ _).drew d1).mono HB.out.size))
                clear d1
                go_wp2_with fail
                go_roundw
                case rel => exact ⟨k + 1, by omega, by go_num, by rw [HN.out]; simp [b2], HB1.out⟩
                case measure => simp [RowKit.intOf]; omega
            | true =>
              go_wp2_with fail
              go_region_held3 (fun W' => (W'.cell? ⟨b, off + k * 4, none⟩ = some (.int .i64 s.1) ∧ W'.cell? ⟨b, off + k * 4 + 1, none⟩ = some (.int .i64 s.2.1) ∧ W'.cell? ⟨b, off + k * 4 + 2, none⟩ = some (.int .i64 s.2.2.1) ∧ W'.cell? ⟨b, off + k * 4 + 3, none⟩ = some (.int .i64 s.2.2.2)) ∧ W'.cell? ⟨w.heap.size + 1, 0, none⟩ = some (.int .i64 px) ∧ W'.cell? ⟨w.heap.size + 1, 1, none⟩ = some (.int .i64 py))
                (first | exact HS.out _ (Below.refl _ _).drew | exact HS.out _ (bstep (Below.refl _ _).drew d1))
                (first | (go_at_call 34; (with_reducible refine (JS.out _).mono ?_); rintro e v1 ⟨rfl, d1⟩))
              all_goals
                have HB1 := Lib.hid (HB.out.trans ((bstep (Below.refl _ _).drew d1).mono HB.out.size))
                clear d1
                go_wp2_with fail
                go_roundw
                case rel => exact ⟨k + 1, by omega, by go_num, by rw [HN.out]; simp [b2], HB1.out⟩
                case measure => simp [RowKit.intOf]; omega
          · obtain rfl : k = (clp r L).length := by omega
            rw [List.take_length]
            have B7 := Lib.hid (bstep B6.out HB.out)
            replace CR := Lib.hid (CR.out.on HB.out)
            replace CP := Lib.hid (CP.out.on HB.out)
            replace HA := Lib.hid (HA.out.on HB.out)
            replace S1 := Lib.hid (S1.out.on HB.out)
            replace S2 := Lib.hid (sps_on S2.out HB.out)
            replace S3 := Lib.hid (sps_on S3.out HB.out)
            have HBz := HB
            clear HB
            rw [HMC.out]
            clear HMC
            obtain ⟨r0, r1, r2, r3⟩ := cel4 CR.out
            obtain ⟨p0, p1⟩ := cel2 CP.out
            have hnn := HML.out
            obtain ⟨I, hI⟩ : ∃ x, inR r px py = x := ⟨_, rfl⟩
            rw [hI] at JR ⊢
            clear hI
            have H2 := Lib.hid (Span.span_Has M2 py A2 c2)
            have H3 := Lib.hid (Span.span_Has M3 px A3 c3)
            have e2 : 0 < NN → hasB M2 py = true ∧ hasB M3 px = true := fun h => by
              have hi := in_set (mu_iff.mpr (by rw [HNN.out]; exact h))
              exact ⟨((N2.out.2 (by first | trivial | rfl)).2 py).trans hi.1, ((N3.out.2 (by first | trivial | rfl)).2 px).trans hi.2⟩
            have HE2 := Lib.hid e2
            clear e2
            cases I with
            | false =>
              simp only [if_false, Bool.false_eq_true]
              go_wp2_with fail
              refine (JR.out wz).mono ?_
              rintro e w5_ ⟨rfl, hb⟩
              have B8 := Lib.hid (bstep B7.out hb)
              replace CR := Lib.hid (CR.out.on hb)
              replace CP := Lib.hid (CP.out.on hb)
              replace HA := Lib.hid (HA.out.on hb)
              replace S1 := Lib.hid (S1.out.on hb)
              replace S2 := Lib.hid (sps_on S2.out hb)
              replace S3 := Lib.hid (sps_on S3.out hb)
              clear hb
              clear r0 r1 r2 r3 p0 p1
              obtain ⟨r0, r1, r2, r3⟩ := cel4 CR.out
              obtain ⟨p0, p1⟩ := cel2 CP.out
              go_wp2_with fail
              refine (JR.out w5_).mono ?_
              rintro e w6_ ⟨rfl, hb⟩
              have B9 := Lib.hid (bstep B8.out hb)
              replace CR := Lib.hid (CR.out.on hb)
              replace CP := Lib.hid (CP.out.on hb)
              replace HA := Lib.hid (HA.out.on hb)
              replace S1 := Lib.hid (S1.out.on hb)
              replace S2 := Lib.hid (sps_on S2.out hb)
              replace S3 := Lib.hid (sps_on S3.out hb)
              clear hb
              clear r0 r1 r2 r3 p0 p1
              obtain ⟨r0, r1, r2, r3⟩ := cel4 CR.out
              obtain ⟨p0, p1⟩ := cel2 CP.out
              by_cases hz : NN = 0
              · subst hz
                go_wp2_with fail
                refine (law_awake w6_).mono ?_
                rintro e w7_ ⟨rfl, hb⟩
                have B10 := Lib.hid (bstep B9.out hb)
                replace CR := Lib.hid (CR.out.on hb)
                replace CP := Lib.hid (CP.out.on hb)
                replace HA := Lib.hid (HA.out.on hb)
                replace S1 := Lib.hid (S1.out.on hb)
                replace S2 := Lib.hid (sps_on S2.out hb)
                replace S3 := Lib.hid (sps_on S3.out hb)
                clear hb
                clear r0 r1 r2 r3 p0 p1
                obtain ⟨r0, r1, r2, r3⟩ := cel4 CR.out
                obtain ⟨p0, p1⟩ := cel2 CP.out
                go_wp2_with fail
                go_ret
                exact ⟨rfl, B10.out⟩
              · have z1 : (NN == 0) = false := beq_false_of_ne hz
                obtain ⟨q2, q3⟩ := HE2.out (by omega)
                rw [q2] at H2
                rw [q3] at H3
                clear q2 q3
                go_wp2_with fail
                refine (H2.out w6_ S2.out (by have := N2.out.1; omega)).mono ?_
                rintro e w7_ ⟨rfl, hb⟩
                have B10 := Lib.hid (bstep B9.out hb)
                replace CR := Lib.hid (CR.out.on hb)
                replace CP := Lib.hid (CP.out.on hb)
                replace HA := Lib.hid (HA.out.on hb)
                replace S1 := Lib.hid (S1.out.on hb)
                replace S2 := Lib.hid (sps_on S2.out hb)
                replace S3 := Lib.hid (sps_on S3.out hb)
                clear hb
                clear r0 r1 r2 r3 p0 p1
                obtain ⟨r0, r1, r2, r3⟩ := cel4 CR.out
                obtain ⟨p0, p1⟩ := cel2 CP.out
                go_wp2_with fail
                refine (H3.out w7_ S3.out (by have := N3.out.1; omega)).mono ?_
                rintro e w8_ ⟨rfl, hb⟩
                have B11 := Lib.hid (bstep B10.out hb)
                replace CR := Lib.hid (CR.out.on hb)
                replace CP := Lib.hid (CP.out.on hb)
                replace HA := Lib.hid (HA.out.on hb)
                replace S1 := Lib.hid (S1.out.on hb)
                replace S2 := Lib.hid (sps_on S2.out hb)
                replace S3 := Lib.hid (sps_on S3.out hb)
                clear hb
                clear r0 r1 r2 r3 p0 p1
                obtain ⟨r0, r1, r2, r3⟩ := cel4 CR.out
                obtain ⟨p0, p1⟩ := cel2 CP.out
                go_wp2_with fail
                refine (law_awake w8_).mono ?_
                rintro e w9_ ⟨rfl, hb⟩
                have B12 := Lib.hid (bstep B11.out hb)
                replace CR := Lib.hid (CR.out.on hb)
                replace CP := Lib.hid (CP.out.on hb)
                replace HA := Lib.hid (HA.out.on hb)
                replace S1 := Lib.hid (S1.out.on hb)
                replace S2 := Lib.hid (sps_on S2.out hb)
                replace S3 := Lib.hid (sps_on S3.out hb)
                clear hb
                clear r0 r1 r2 r3 p0 p1
                obtain ⟨r0, r1, r2, r3⟩ := cel4 CR.out
                obtain ⟨p0, p1⟩ := cel2 CP.out
                go_wp2_with fail
                go_ret
                exact ⟨rfl, B12.out⟩
            | true =>
              simp only [if_true]
              go_wp2_with fail
              refine (JR.out wz).mono ?_
              rintro e w5_ ⟨rfl, hb⟩
              have B8 := Lib.hid (bstep B7.out hb)
              replace CR := Lib.hid (CR.out.on hb)
              replace CP := Lib.hid (CP.out.on hb)
              replace HA := Lib.hid (HA.out.on hb)
              replace S1 := Lib.hid (S1.out.on hb)
              replace S2 := Lib.hid (sps_on S2.out hb)
              replace S3 := Lib.hid (sps_on S3.out hb)
              clear hb
              clear r0 r1 r2 r3 p0 p1
              obtain ⟨r0, r1, r2, r3⟩ := cel4 CR.out
              obtain ⟨p0, p1⟩ := cel2 CP.out
              go_wp2_with fail
              refine (JR.out w5_).mono ?_
              rintro e w6_ ⟨rfl, hb⟩
              have B9 := Lib.hid (bstep B8.out hb)
              replace CR := Lib.hid (CR.out.on hb)
              replace CP := Lib.hid (CP.out.on hb)
              replace HA := Lib.hid (HA.out.on hb)
              replace S1 := Lib.hid (S1.out.on hb)
              replace S2 := Lib.hid (sps_on S2.out hb)
              replace S3 := Lib.hid (sps_on S3.out hb)
              clear hb
              clear r0 r1 r2 r3 p0 p1
              obtain ⟨r0, r1, r2, r3⟩ := cel4 CR.out
              obtain ⟨p0, p1⟩ := cel2 CP.out
              by_cases hz : NN = 0
              · subst hz
                go_wp2_with fail
                refine (law_awake w6_).mono ?_
                rintro e w7_ ⟨rfl, hb⟩
                have B10 := Lib.hid (bstep B9.out hb)
                replace CR := Lib.hid (CR.out.on hb)
                replace CP := Lib.hid (CP.out.on hb)
                replace HA := Lib.hid (HA.out.on hb)
                replace S1 := Lib.hid (S1.out.on hb)
                replace S2 := Lib.hid (sps_on S2.out hb)
                replace S3 := Lib.hid (sps_on S3.out hb)
                clear hb
                clear r0 r1 r2 r3 p0 p1
                obtain ⟨r0, r1, r2, r3⟩ := cel4 CR.out
                obtain ⟨p0, p1⟩ := cel2 CP.out
                go_wp2_with fail
                go_ret
                exact ⟨rfl, B10.out⟩
              · have z1 : (NN == 0) = false := beq_false_of_ne hz
                obtain ⟨q2, q3⟩ := HE2.out (by omega)
                rw [q2] at H2
                rw [q3] at H3
                clear q2 q3
                go_wp2_with fail
                refine (H2.out w6_ S2.out (by have := N2.out.1; omega)).mono ?_
                rintro e w7_ ⟨rfl, hb⟩
                have B10 := Lib.hid (bstep B9.out hb)
                replace CR := Lib.hid (CR.out.on hb)
                replace CP := Lib.hid (CP.out.on hb)
                replace HA := Lib.hid (HA.out.on hb)
                replace S1 := Lib.hid (S1.out.on hb)
                replace S2 := Lib.hid (sps_on S2.out hb)
                replace S3 := Lib.hid (sps_on S3.out hb)
                clear hb
                clear r0 r1 r2 r3 p0 p1
                obtain ⟨r0, r1, r2, r3⟩ := cel4 CR.out
                obtain ⟨p0, p1⟩ := cel2 CP.out
                go_wp2_with fail
                refine (H3.out w7_ S3.out (by have := N3.out.1; omega)).mono ?_
                rintro e w8_ ⟨rfl, hb⟩
                have B11 := Lib.hid (bstep B10.out hb)
                replace CR := Lib.hid (CR.out.on hb)
                replace CP := Lib.hid (CP.out.on hb)
                replace HA := Lib.hid (HA.out.on hb)
                replace S1 := Lib.hid (S1.out.on hb)
                replace S2 := Lib.hid (sps_on S2.out hb)
                replace S3 := Lib.hid (sps_on S3.out hb)
                clear hb
                clear r0 r1 r2 r3 p0 p1
                obtain ⟨r0, r1, r2, r3⟩ := cel4 CR.out
                obtain ⟨p0, p1⟩ := cel2 CP.out
                go_wp2_with fail
                refine (law_awake w8_).mono ?_
                rintro e w9_ ⟨rfl, hb⟩
                have B12 := Lib.hid (bstep B11.out hb)
                replace CR := Lib.hid (CR.out.on hb)
                replace CP := Lib.hid (CP.out.on hb)
                replace HA := Lib.hid (HA.out.on hb)
                replace S1 := Lib.hid (S1.out.on hb)
                replace S2 := Lib.hid (sps_on S2.out hb)
                replace S3 := Lib.hid (sps_on S3.out hb)
                clear hb
                clear r0 r1 r2 r3 p0 p1
                obtain ⟨r0, r1, r2, r3⟩ := cel4 CR.out
                obtain ⟨p0, p1⟩ := cel2 CP.out
                go_wp2_with fail
                go_ret
                exact ⟨rfl, B12.out⟩
#print axioms walk_RectPoints
end Go.Proofs.Ytccbnobpighckaa.Rect
