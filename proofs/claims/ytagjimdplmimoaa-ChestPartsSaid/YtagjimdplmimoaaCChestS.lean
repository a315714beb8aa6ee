/- Nothing is lost: ChestKeeps (gen18/k.py). -/
import Derived.Test.YtagjimdplmimoaaPk20
namespace Go.Proofs.Ytagjimdplmimoaa.Chest
open Go.ChangeShapes Go.WideShapes Go.RowKit Go.Lib
open Go.Proofs.Ytagjimdplmimoaa.Mem (Cl eI Own)
open Go.Proofs.Ytagjimdplmimoaa.Share (own_cl partsL partsL_len sumK sumK_zero sumK_succ)
open Go.Proofs.Ytagjimdplmimoaa.Tank (MM cl_at lisE_mk)
open Go.Proofs.Ytagjimdplmimoaa.Rw (glt get_lt below_alloc bstep below_drewN below_drew drew_below)
set_option linter.unusedVariables false
set_option maxRecDepth 100000

theorem sumK_less {L m : List Int} (h : m.length = L.length) : ∀ k, k ≤ L.length → sumK (lessL L m) k = sumK L k - sumK m k
  | 0, _ => by rw [sumK_zero, sumK_zero, sumK_zero]; rfl
  | k + 1, hk => by
    obtain ⟨x, hx⟩ := get_lt (L := L) (k := k) (by omega)
    obtain ⟨y, hy⟩ := get_lt (L := m) (k := k) (by omega)
    rw [sumK_succ hx, sumK_succ hy, sumK_succ (less_at hx hy), sumK_less h k (by omega)]; omega
theorem sumK_plus {L m : List Int} (h : m.length = L.length) : ∀ k, k ≤ L.length → sumK (plusL L m) k = sumK L k + sumK m k
  | 0, _ => by rw [sumK_zero, sumK_zero, sumK_zero]; rfl
  | k + 1, hk => by
    obtain ⟨x, hx⟩ := get_lt (L := L) (k := k) (by omega)
    obtain ⟨y, hy⟩ := get_lt (L := m) (k := k) (by omega)
    rw [sumK_succ hx, sumK_succ hy, sumK_succ (plus_at hx hy), sumK_plus h k (by omega)]; omega
theorem sumZ_less {L m : List Int} (h : m.length = L.length) : sumZ (lessL L m) = sumZ L - sumZ m := by
  unfold sumZ; rw [less_len h, sumK_less h _ (Nat.le_refl _), h]
theorem sumZ_plus {L m : List Int} (h : m.length = L.length) : sumZ (plusL L m) = sumZ L + sumZ m := by
  unfold sumZ; rw [plus_len h, sumK_plus h _ (Nat.le_refl _), h]
theorem sumK_mono {l : List Int} (h : ∀ z ∈ l, 0 ≤ z) (k : Nat) : ∀ j, k + j ≤ l.length → sumK l k ≤ sumK l (k + j)
  | 0, _ => Int.le_refl _
  | j + 1, hj => by
    obtain ⟨x, hx⟩ := get_lt (L := l) (k := k + j) (by omega)
    have h1 := sumK_mono h k j (by omega)
    have h2 := h x (List.mem_of_getElem? hx)
    rw [show k + (j + 1) = (k + j) + 1 by omega, sumK_succ hx]; omega
theorem le_sum {l : List Int} (h : ∀ z ∈ l, 0 ≤ z) {k : Nat} {x : Int} (hx : l[k]? = some x) : x ≤ sumZ l := by
  have hk := glt hx
  have h1 := sumK_mono h (k + 1) (l.length - (k + 1)) (by omega)
  have h0 := sumK_mono h 0 k (by omega)
  rw [show k + 1 + (l.length - (k + 1)) = l.length by omega, sumK_succ hx] at h1
  rw [sumK_zero, Nat.zero_add] at h0
  unfold sumZ; omega
theorem ok_less {cap t : Int} {L : List Int} (ok : COk cap L) (t0 : 0 ≤ t) (tl : t ≤ sumZ L) : COk cap (lessL L (partsL t L)) := by
  have sok := dr_ok ok t0 tl
  have hl := partsL_len t L
  refine ⟨ok.room, by rw [less_len hl]; exact ok.len, fun z hz => ?_, ?_⟩
  · obtain ⟨k, hk⟩ := List.mem_iff_getElem?.mp hz
    have hkl := glt hk
    rw [less_len hl] at hkl
    obtain ⟨x, hx⟩ := get_lt (L := L) (k := k) hkl
    obtain ⟨y, hy⟩ := get_lt (L := partsL t L) (k := k) (by omega)
    rw [less_at hx hy] at hk
    cases hk
    have h1 := dr_part sok tl hy hx
    have h2 := ok.all x (List.mem_of_getElem? hx)
    omega
  · rw [sumZ_less hl, dr_sum sok]; have := ok.sum; omega
theorem ok_plus {cb t : Int} {La Lb : List Int} {ca : Int} (oka : COk ca La) (okb : COk cb Lb) (hl : La.length = Lb.length) (t0 : 0 ≤ t) (tl : t ≤ sumZ La) (h : ¬ cb < sumZ Lb + t) : COk cb (plusL Lb (partsL t La)) := by
  have sok := dr_ok oka t0 tl
  have hp : (partsL t La).length = Lb.length := by rw [partsL_len, hl]
  have hz : ∀ z ∈ plusL Lb (partsL t La), 0 ≤ z := fun z hz => by
    obtain ⟨k, hk⟩ := List.mem_iff_getElem?.mp hz
    have hkl := glt hk
    rw [plus_len hp] at hkl
    obtain ⟨x, hx⟩ := get_lt (L := Lb) (k := k) hkl
    obtain ⟨y, hy⟩ := get_lt (L := partsL t La) (k := k) (by omega)
    rw [plus_at hx hy] at hk
    cases hk
    have h1 := parts_lim oka t0 tl y (List.mem_of_getElem? hy)
    have h2 := okb.all x (List.mem_of_getElem? hx)
    omega
  have hs : sumZ (plusL Lb (partsL t La)) ≤ cb := by rw [sumZ_plus hp, dr_sum sok]; omega
  have hr := okb.room
  refine ⟨okb.room, by rw [plus_len hp]; exact okb.len, fun z h1 => ⟨hz z h1, ?_⟩, hs⟩
  obtain ⟨k, hk⟩ := List.mem_iff_getElem?.mp h1
  have := le_sum hz hk
  omega
theorem plus_less {L m : List Int} (h : m.length = L.length) : plusL (lessL L m) m = L := by
  apply List.ext_getElem?
  intro k
  rcases Nat.lt_or_ge k L.length with hk | hk
  · obtain ⟨x, hx⟩ := get_lt (L := L) (k := k) hk
    obtain ⟨y, hy⟩ := get_lt (L := m) (k := k) (by omega)
    rw [plus_at (less_at hx hy) hy, hx, show x - y + y = x by omega]
  · rw [List.getElem?_eq_none (by rw [plus_len (by rw [less_len h, h]), less_len h]; exact hk), List.getElem?_eq_none hk]
theorem fil_back {cap t : Int} {L : List Int} (ok : COk cap L) (t0 : 0 ≤ t) (tl : t ≤ sumZ L) : filE cap (lessL L (partsL t L)) (partsL t L) = 0 ∧ filC cap (lessL L (partsL t L)) (partsL t L) = cap ∧ filL cap (lessL L (partsL t L)) (partsL t L) = L := by
  have hl := partsL_len t L
  have hk := (ok_less ok t0 tl).ck
  have he : filE cap (lessL L (partsL t L)) (partsL t L) = 0 := by
    rw [filE_end hk (lisE_mk (by rw [less_len hl]; have := ok.len; omega) (by rw [less_len hl]; have := ok.len; omega) (by rw [less_len hl, hl]) (parts_lim ok t0 tl)), sumZ_less hl, dr_sum (dr_ok ok t0 tl), if_neg (by have := ok.sum; omega)]
  exact ⟨he, if_pos he, (if_pos he).trans (plus_less hl)⟩
theorem poE_of {ca cb t : Int} {La Lb : List Int} (h : poE ca La cb Lb t = 0) : ckC ca La = 0 ∧ ckC cb Lb = 0 ∧ La.length = Lb.length ∧ drE ca La t = 0 ∧ ¬ cb < sumZ Lb + t := by
  by_cases h1 : ckC ca La = 0
  rotate_left
  · rw [poE_a h1] at h; exact absurd h h1
  by_cases h2 : ckC cb Lb = 0
  rotate_left
  · rw [poE_b h1 h2] at h; exact absurd h h2
  by_cases h3 : La.length = Lb.length
  rotate_left
  · rw [poE_len h1 h2 h3] at h; cases h
  by_cases h4 : drE ca La t = 0
  rotate_left
  · rw [poE_dr h1 h2 h3 h4] at h; exact absurd h h4
  rw [poE_end h1 h2 h3 h4] at h
  refine ⟨h1, h2, h3, h4, fun h5 => ?_⟩
  rw [if_pos h5] at h; cases h
set_option maxHeartbeats 6400000 in
theorem walk_ChestKeeps (w : World) (cap : Int) (A : Option Addr) (c : Nat) (L : List Int) (ha : Cl eI w A L) (hm : L.length ≤ 9223372036854775807) (cb : Int) (B : Option Addr) (d : Nat) (M : List Int) (ha2 : Cl eI w B M) (hm2 : M.length ≤ 9223372036854775807) (t : Int) :
    Calls Try.prog 7 #[.agg #[.int .i64 cap, .slice A L.length c], .agg #[.int .i64 cb, .slice B M.length d], .int .i64 t] w fun e w' => e = .returned (.bool true) ∧ Below w.heap.size w w' := by
  have HA := Lib.hid ha
  have HA2 := Lib.hid ha2
  have KQ := Lib.hid fun W => law_awake W
  obtain ⟨n, hn⟩ : ∃ n, L.length = n := ⟨_, rfl⟩
  obtain ⟨m, hn2⟩ : ∃ n, M.length = n := ⟨_, rfl⟩
  rw [hn] at hm ⊢
  rw [hn2] at hm2 ⊢
  have K1 := Lib.hid fun (W : World) (h : Cl eI W A L) => ch_Draw cap t L A n c hn W h hm
  have K2 := Lib.hid fun (W : World) (h : Cl eI W A L) (j : Cl eI W B M) => ch_Pour cap cb t L M A B n c m d hn hn2 W h j hm hm2
  have KL := Lib.hid fun (W : World) (h : Cl eI W A L) => ch_Level cap L A n c hn.symm W h hm
  have HN := Lib.hid (And.intro hn hn2)
  obtain ⟨E, hE⟩ : ∃ x, drE cap L t = x := ⟨_, rfl⟩
  obtain ⟨DC, hDC⟩ : ∃ x, drC cap L t = x := ⟨_, rfl⟩
  obtain ⟨DL, hDL⟩ : ∃ x, drL cap L t = x := ⟨_, rfl⟩
  obtain ⟨DM, hDM⟩ : ∃ x, drM cap L t = x := ⟨_, rfl⟩
  obtain ⟨PE, hPE⟩ : ∃ x, poE cap L cb M t = x := ⟨_, rfl⟩
  obtain ⟨PA, hPA⟩ : ∃ x, poA cap L cb M t = x := ⟨_, rfl⟩
  obtain ⟨PX, hPX⟩ : ∃ x, poX cap L cb M t = x := ⟨_, rfl⟩
  obtain ⟨PB, hPB⟩ : ∃ x, poB cap L cb M t = x := ⟨_, rfl⟩
  obtain ⟨PY, hPY⟩ : ∃ x, poY cap L cb M t = x := ⟨_, rfl⟩
  rw [hE, hDC, hDL, hDM] at K1
  rw [hPE, hPA, hPX, hPB, hPY] at K2
  have HD := Lib.hid (And.intro hE (And.intro hDC (And.intro hDL hDM)))
  have HP := Lib.hid (And.intro hPE (And.intro hPA (And.intro hPX (And.intro hPB hPY))))
  clear ha ha2 hn hn2 hE hDC hDL hDM hPE hPA hPX hPB hPY
  go_enter Try.func7, Try.ntmps7
  go_upto_region 1 with fail
  obtain ⟨w0, hw0⟩ : ∃ W, (w.alloc (.cells #[.int .i64 cap, .slice A n c] 24)).alloc (.cells #[.int .i64 cb, .slice B m d] 24) = W := ⟨_, rfl⟩
  have C0 : Hid (Rw.Cel w0 w.heap.size [.int .i64 cap, .slice A n c]) := hw0 ▸ (Rw.Cel.new w [_, _] _).alloc _
  have D0 : Hid (Rw.Cel w0 (w.heap.size + 1) [.int .i64 cb, .slice B m d]) := hw0 ▸ Rw.Cel.new_at _ [_, _] _ (by simp)
  have HB : Hid (Below w.heap.size w w0) := hw0 ▸ bstep (below_alloc _ _) (below_alloc _ _)
  rw [hw0]
  clear hw0
  by_cases hl : 20 < n
  · have d0 : decide ((20 : Int) < (n : Int)) = true := decide_eq_true (by omega)
    obtain ⟨x0, x1⟩ := C0.out.two
    go_wp2_with fail
    refine (KQ.out _).mono ?_
    rintro e wq ⟨rfl, hb⟩
    have HF := Lib.hid (bstep HB.out hb)
    clear hb
    go_wp2_with fail
    go_ret
    exact ⟨rfl, HF.out⟩
  have d0 : decide ((20 : Int) < (n : Int)) = false := decide_eq_false (by omega)
  by_cases hl2 : 20 < m
  · have d1 : decide ((20 : Int) < (m : Int)) = true := decide_eq_true (by omega)
    obtain ⟨x0, x1⟩ := C0.out.two
    obtain ⟨y0, y1⟩ := D0.out.two
    go_wp2_with fail
    refine (KQ.out _).mono ?_
    rintro e wq ⟨rfl, hb⟩
    have HF := Lib.hid (bstep HB.out hb)
    clear hb
    go_wp2_with fail
    go_ret
    exact ⟨rfl, HF.out⟩
  have d1 : decide ((20 : Int) < (m : Int)) = false := decide_eq_false (by omega)
  obtain ⟨x0, x1⟩ := C0.out.two
  obtain ⟨y0, y1⟩ := D0.out.two
  go_wp2_with fail
  refine (K1.out w0 (HA.out.on HB.out)).mono ?_
  rintro e w1 ⟨A1, n1, c1, B1, m1, d1', rfl, hl3, hl4, ho, hp, hb⟩
  have X1 := Lib.hid (own_cl ho)
  have Y1 := Lib.hid (own_cl hp)
  have N1 := Lib.hid (And.intro hl3 hl4)
  replace HB := Lib.hid (bstep HB.out hb)
  replace C0 := Lib.hid (C0.out.on hb)
  replace D0 := Lib.hid (D0.out.on hb)
  clear hb ho hp hl3 hl4 x0 x1 y0 y1 d0 d1 hl hl2
  go_upto_region 4 with fail
  obtain ⟨w2, hw⟩ : ∃ W, w1.alloc (.cells #[.int .i64 DC, .slice A1 n1 c1] 24) = W := ⟨_, rfl⟩
  obtain ⟨gP1, hg⟩ : ∃ g, w1.heap.size = g := ⟨_, rfl⟩
  have hb : Below w1.heap.size w1 w2 := hw ▸ below_alloc _ _
  have P1 : Hid (Rw.Cel w2 gP1 [.int .i64 DC, .slice A1 n1 c1]) := hw ▸ hg ▸ Rw.Cel.new w1 [_, _] _
  replace HB := Lib.hid (bstep HB.out hb)
  replace C0 := Lib.hid (C0.out.on hb)
  replace D0 := Lib.hid (D0.out.on hb)
  replace X1 := Lib.hid (X1.out.on hb)
  replace Y1 := Lib.hid (Y1.out.on hb)
  first | rw [hw, hg] | rw [hw]
  clear hw hg hb
  by_cases hz : E = 0
  rotate_left
  · obtain ⟨z1, z2⟩ := ne_zero hz
    clear hz
    obtain ⟨x0, x1⟩ := C0.out.two
    obtain ⟨y0, y1⟩ := D0.out.two
    go_wp2_with fail
    refine (K2.out w2 (HA.out.on HB.out) (HA2.out.on HB.out)).mono ?_
    rintro e wfa ⟨A2, n2, c2, B2, m2, d2, rfl, hl5, hl6, ho, hp, hb⟩
    have X2 := Lib.hid (own_cl ho)
    have Y2 := Lib.hid (own_cl hp)
    have N2 := Lib.hid (And.intro hl5 hl6)
    replace HB := Lib.hid (bstep HB.out hb)
    replace C0 := Lib.hid (C0.out.on hb)
    replace D0 := Lib.hid (D0.out.on hb)
    clear hb ho hp hl5 hl6 x0 x1 y0 y1
    go_upto_region 21 with fail
    obtain ⟨wfb, hw⟩ : ∃ W, (wfa.alloc (.cells #[.int .i64 PA, .slice A2 n2 c2] 24)).alloc (.cells #[.int .i64 PB, .slice B2 m2 d2] 24) = W := ⟨_, rfl⟩
    obtain ⟨g2, hg⟩ : ∃ g, wfa.heap.size = g := ⟨_, rfl⟩
    have hb : Below wfa.heap.size wfa wfb := hw ▸ bstep (below_alloc _ _) (below_alloc _ _)
    have P2 : Hid (Rw.Cel wfb g2 [.int .i64 PA, .slice A2 n2 c2]) := hw ▸ hg ▸ (Rw.Cel.new wfa [_, _] _).alloc _
    have Q2 : Hid (Rw.Cel wfb (g2 + 1) [.int .i64 PB, .slice B2 m2 d2]) := hw ▸ hg ▸ Rw.Cel.new_at _ [_, _] _ (by simp)
    replace HB := Lib.hid (bstep HB.out hb)
    replace C0 := Lib.hid (C0.out.on hb)
    replace D0 := Lib.hid (D0.out.on hb)
    replace X2 := Lib.hid (X2.out.on hb)
    replace Y2 := Lib.hid (Y2.out.on hb)
    rw [hw, hg]
    clear hw hg hb
    by_cases hz : PE = 0
    rotate_left
    · obtain ⟨z1, z2⟩ := ne_zero hz
      obtain ⟨-, -, e2, -, e3⟩ := po_no HP.out.1 hz
      have hx := HP.out.2.2.1
      have hy := HP.out.2.2.2.2
      rw [e2] at hx
      rw [e3] at hy
      obtain rfl : 0 = n2 := by rw [← N2.out.1, ← hx]; rfl
      obtain rfl : 0 = m2 := by rw [← N2.out.2, ← hy]; rfl
      clear hz e2 e3 hx hy
      obtain ⟨x0, x1⟩ := P2.out.two
      obtain ⟨y0, y1⟩ := Q2.out.two
      go_wp2_with fail
      refine (KQ.out _).mono ?_
      rintro e wq ⟨rfl, hb⟩
      have HF := Lib.hid (bstep HB.out hb)
      clear hb
      go_wp2_with fail
      go_ret
      exact ⟨rfl, HF.out⟩
    subst hz
    obtain ⟨q1, q2, q3, q4, q5⟩ := poE_of HP.out.1
    obtain ⟨-, e1, e2, e3, e4⟩ := po_yes HP.out.1
    obtain ⟨oka, t0, tl⟩ := drE_of q4
    have okb := ckC_ok q2
    have HX := HP.out.2.2.1.symm.trans e2
    have HY := HP.out.2.2.2.2.symm.trans e4
    obtain rfl : PA = cap := HP.out.2.1.symm.trans e1
    obtain rfl : PB = cb := HP.out.2.2.2.1.symm.trans e3
    subst HX HY
    have OX := Lib.hid (ok_less oka t0 tl)
    have OY := Lib.hid (ok_plus oka okb q3 t0 tl q5)
    have HPL := Lib.hid (Share.partsL_len t L)
    have HLS := Lib.hid (And.intro (less_len HPL.out) (plus_len (L := M) (by rw [HPL.out, q3])))
    obtain rfl : n = m := by have := HN.out; omega
    obtain rfl : n = n2 := by have := HN.out; have := N2.out; have := HLS.out; omega
    obtain rfl : n = m2 := by have := HN.out; have := N2.out; have := HLS.out; omega
    have KX := Lib.hid fun (W : World) (h : Cl eI W A2 (lessL L (partsL t L))) => ch_Check PA (lessL L (partsL t L)) A2 n c2 N2.out.1.symm W h hm
    have KY := Lib.hid fun (W : World) (h : Cl eI W B2 (plusL M (partsL t L))) => ch_Check PB (plusL M (partsL t L)) B2 n d2 N2.out.2.symm W h hm
    rw [OX.out.ck] at KX
    rw [OY.out.ck] at KY
    have HOK := Lib.hid (And.intro oka okb)
    have b0 : ((n : Int) == (n : Int)) = true := by simp
    have b1 : ((n : Int) != (n : Int)) = false := by simp
    have b2 : (PA != PA) = false := by simp
    have b3 : (PB != PB) = false := by simp
    clear q1 q2 q3 q4 q5 e1 e2 e3 e4 oka t0 tl okb
    obtain ⟨x0, x1⟩ := C0.out.two
    obtain ⟨y0, y1⟩ := D0.out.two
    obtain ⟨u0, u1⟩ := P2.out.two
    obtain ⟨v0, v1⟩ := Q2.out.two
    go_wp2_with fail
    clear x0 x1 y0 y1 u0 u1 v0 v1
    go_loopw [19] (fun i wr => ∃ (k : Nat), k ≤ n ∧ i = .int .i64 k ∧ Below wfb.heap.size wfb wr) (fun i _ => n - (RowKit.intOf i).toNat)
    case atStart => exact ⟨0, Nat.zero_le _, rfl, Below.refl _ _⟩
    case round =>
      obtain ⟨k, hk, rfl, hbel⟩ := hrel
      have HW := Lib.hid hbel
      clear hbel
      obtain ⟨x0, x1⟩ := (C0.out.on HW.out).two
      obtain ⟨y0, y1⟩ := (D0.out.on HW.out).two
      obtain ⟨u0, u1⟩ := (P2.out.on HW.out).two
      obtain ⟨v0, v1⟩ := (Q2.out.on HW.out).two
      rcases Nat.lt_or_ge k n with hlt | hge
      · obtain ⟨x, hx⟩ := get_lt (L := L) (k := k) (by have := HN.out.1; omega)
        obtain ⟨y, hy⟩ := get_lt (L := M) (k := k) (by have := HN.out.2; omega)
        obtain ⟨z, hz⟩ := get_lt (L := partsL t L) (k := k) (by have := HPL.out; have := HN.out; omega)
        have lx := HOK.out.1.all x (List.mem_of_getElem? hx)
        have ly := HOK.out.2.all y (List.mem_of_getElem? hy)
        have lp := OX.out.all _ (List.mem_of_getElem? (less_at hx hz))
        have lq := OY.out.all _ (List.mem_of_getElem? (plus_at hy hz))
        obtain ⟨b1', o1, rfl, hb1, h1⟩ := cl_at (HA.out.on (bstep HB.out HW.out)) hx
        obtain ⟨b2', o2, rfl, hb2, h2⟩ := cl_at (HA2.out.on (bstep HB.out HW.out)) hy
        obtain ⟨b3', o3, rfl, hb3, h3⟩ := cl_at (X2.out.on HW.out) (less_at hx hz)
        obtain ⟨b4', o4, rfl, hb4, h4⟩ := cl_at (Y2.out.on HW.out) (plus_at hy hz)
        obtain ⟨p, hp⟩ : ∃ p, x - z = p := ⟨_, rfl⟩
        obtain ⟨q, hq⟩ : ∃ q, y + z = q := ⟨_, rfl⟩
        rw [hp] at lp h3
        rw [hq] at lq h4
        obtain ⟨s, hs⟩ : ∃ s, p + q = s := ⟨_, rfl⟩
        have hs2 : x + y = s := by omega
        have hM : MM = 1099511627776 := rfl
        have ws : IntKind.i64.wrap s = s := Rw.wrap_id (by omega)
        have bs : (s != s) = false := by simp
        have i1 : (k : Int) < (n : Int) := by omega
        have i2 : (0 : Int) ≤ (k : Int) := by omega
        clear hx hy hz lx ly lp lq hp hq hb1 hb2 hb3 hb4
        go_wp2_with fail
        go_quiet (fail)
        go_wp2_with fail
        go_roundw
        case rel => exact ⟨k + 1, by omega, by go_num, below_drewN HW.out _⟩
        case measure => simp [RowKit.intOf]; omega
      · obtain rfl : k = n := by omega
        have HB5 := Lib.hid (bstep HB.out HW.out)
        have BP := Lib.hid (P2.out.on HW.out)
        have BQ := Lib.hid (Q2.out.on HW.out)
        have RX := Lib.hid (X2.out.on HW.out)
        have RY := Lib.hid (Y2.out.on HW.out)
        clear HB
        have HB := HB5
        clear HB5
        go_wp2_with fail
        refine (KX.out wr RX.out).mono ?_
        rintro e wx ⟨rfl, hb⟩
        replace HB := Lib.hid (bstep HB.out hb)
        obtain ⟨r0, r1⟩ := (BQ.out.on hb).two
        have RZ := Lib.hid (RY.out.on hb)
        clear hb x0 x1 y0 y1 u0 u1 v0 v1
        go_wp2_with fail
        refine (KY.out wx RZ.out).mono ?_
        rintro e wy ⟨rfl, hb⟩
        replace HB := Lib.hid (bstep HB.out hb)
        clear hb r0 r1
        go_wp2_with fail
        refine (KQ.out _).mono ?_
        rintro e wq ⟨rfl, hb⟩
        have HF := Lib.hid (bstep HB.out hb)
        clear hb
        go_wp2_with fail
        go_ret
        exact ⟨rfl, HF.out⟩
  subst hz
  obtain ⟨dC, dL, dM⟩ := dr_yes HD.out.1
  obtain ⟨ok, t0, tl⟩ := drE_of HD.out.1
  have e2 := HD.out.2.2.1.symm.trans dL
  have e3 := HD.out.2.2.2.symm.trans dM
  obtain rfl : cap = DC := (HD.out.2.1.symm.trans dC).symm
  subst e2 e3
  have HPL := Lib.hid (Share.partsL_len t L)
  have HLS := Lib.hid (less_len HPL.out)
  obtain rfl : n = n1 := by have := HN.out; have := N1.out; have := HLS.out; omega
  obtain rfl : n = m1 := by have := HN.out; have := N1.out; have := HPL.out; omega
  have HOK := Lib.hid ok
  have HT := Lib.hid (And.intro t0 tl)
  have OX := Lib.hid (ok_less ok t0 tl)
  have KX := Lib.hid fun (W : World) (h : Cl eI W A1 (lessL L (partsL t L))) => ch_Check cap (lessL L (partsL t L)) A1 n c1 N1.out.1.symm W h hm
  have KF := Lib.hid fun (W : World) (h : Cl eI W A1 (lessL L (partsL t L))) (j : Cl eI W B1 (partsL t L)) => ch_Fill cap (lessL L (partsL t L)) (partsL t L) A1 B1 n c1 n d1' N1.out.1 N1.out.2 W h j hm hm
  rw [OX.out.ck] at KX
  obtain ⟨f1, f2, f3⟩ := fil_back ok t0 tl
  rw [f1, f2, f3] at KF
  rw [ok.ck, levV_ok ok.ck] at KL
  have b0 : ((n : Int) != (n : Int)) = false := by simp
  have b1 : (cap != cap) = false := by simp
  clear dC dL dM ok t0 tl f1 f2 f3
  obtain ⟨x0, x1⟩ := C0.out.two
  obtain ⟨u0, u1⟩ := P1.out.two
  go_wp2_with fail
  refine (KX.out w2 X1.out).mono ?_
  rintro e w3 ⟨rfl, hb⟩
  replace HB := Lib.hid (bstep HB.out hb)
  replace C0 := Lib.hid (C0.out.on hb)
  replace D0 := Lib.hid (D0.out.on hb)
  replace X1 := Lib.hid (X1.out.on hb)
  replace Y1 := Lib.hid (Y1.out.on hb)
  replace P1 := Lib.hid (P1.out.on hb)
  clear hb x0 x1 u0 u1
  go_wp2_with fail
  go_loopw [10, 11] (fun s i wr => ∃ (k : Nat) (S : Int), k ≤ n ∧ i = .int .i64 k ∧ s = .int .i64 S ∧ S = sumK (partsL t L) k ∧ Below w3.heap.size w3 wr) (fun _ i _ => n - (RowKit.intOf i).toNat)
  case atStart => exact ⟨0, 0, Nat.zero_le _, rfl, rfl, rfl, Below.refl _ _⟩
  case round =>
    obtain ⟨k, S, hk, rfl, rfl, hS, hbel⟩ := hrel
    have HW := Lib.hid hbel
    have HS := Lib.hid hS
    clear hbel hS
    rcases Nat.lt_or_ge k n with hlt | hge
    · obtain ⟨x0, x1⟩ := (C0.out.on HW.out).two
      obtain ⟨u0, u1⟩ := (P1.out.on HW.out).two
      obtain ⟨x, hx⟩ := get_lt (L := L) (k := k) (by have := HN.out.1; omega)
      obtain ⟨z, hz⟩ := get_lt (L := partsL t L) (k := k) (by have := HPL.out; have := HN.out; omega)
      have lx := HOK.out.all x (List.mem_of_getElem? hx)
      have lp := OX.out.all _ (List.mem_of_getElem? (less_at hx hz))
      have lz := parts_lim HOK.out HT.out.1 HT.out.2 z (List.mem_of_getElem? hz)
      have hl1 := (sumK_lim (parts_lim HOK.out HT.out.1 HT.out.2) (k + 1) (by have := HPL.out; have := HN.out; omega))
      have hl8 := HOK.out.len
      have hsu := sumK_succ hz
      obtain ⟨b1', o1, rfl, hb1, h1⟩ := cl_at (HA.out.on (bstep HB.out HW.out)) hx
      obtain ⟨b2', o2, rfl, hb2, h2⟩ := cl_at (Y1.out.on HW.out) hz
      obtain ⟨b3', o3, rfl, hb3, h3⟩ := cl_at (X1.out.on HW.out) (less_at hx hz)
      obtain ⟨p, hp⟩ : ∃ p, x - z = p := ⟨_, rfl⟩
      rw [hp] at lp h3
      have hs : p + z = x := by omega
      obtain ⟨S2, hS2⟩ : ∃ S2, sumK (partsL t L) (k + 1) = S2 := ⟨_, rfl⟩
      rw [hS2, ← HS.out] at hsu
      rw [hS2] at hl1
      have hsz : S + z = S2 := hsu.symm
      have hM : MM = 1099511627776 := rfl
      have hNN := HN.out.1
      have wx : IntKind.i64.wrap x = x := Rw.wrap_id (by omega)
      have wS : IntKind.i64.wrap S2 = S2 := Rw.wrap_id (by rw [hM] at hl1; omega)
      have bs : (x != x) = false := by simp
      have d0 : decide (z < 0) = false := decide_eq_false (by omega)
      have d1 : decide (p < 0) = false := decide_eq_false (by omega)
      have i1 : (k : Int) < (n : Int) := by omega
      have i2 : (0 : Int) ≤ (k : Int) := by omega
      have HS2 := Lib.hid hS2
      clear hx hz lx lp lz hl1 hl8 hsu hp hb1 hb2 hb3 hS2 hNN
      go_wp2_with fail
      go_quiet (fail)
      go_wp2_with fail
      go_roundw
      case rel => exact ⟨k + 1, S2, by omega, by go_num, rfl, HS2.out.symm, below_drewN HW.out _⟩
      case measure => simp [RowKit.intOf]; omega
    · obtain rfl : n = k := by omega
      have hSt : S = t := by
        have h1 := dr_sum (dr_ok HOK.out HT.out.1 HT.out.2)
        unfold sumZ at h1
        rw [HPL.out, HN.out.1] at h1
        rw [HS.out]; exact h1
      obtain rfl : t = S := hSt.symm
      have hb := HW.out
      replace HB := Lib.hid (bstep HB.out hb)
      replace C0 := Lib.hid (C0.out.on hb)
      replace D0 := Lib.hid (D0.out.on hb)
      replace X1 := Lib.hid (X1.out.on hb)
      replace Y1 := Lib.hid (Y1.out.on hb)
      replace P1 := Lib.hid (P1.out.on hb)
      clear hb HW HS
      have bt : (t != t) = false := by simp
      obtain ⟨x0, x1⟩ := C0.out.two
      obtain ⟨u0, u1⟩ := P1.out.two
      go_wp2_with fail
      refine (KL.out wr (HA.out.on HB.out)).mono ?_
      rintro e w4 ⟨rfl, hb⟩
      replace HB := Lib.hid (bstep HB.out hb)
      replace C0 := Lib.hid (C0.out.on hb)
      replace D0 := Lib.hid (D0.out.on hb)
      replace X1 := Lib.hid (X1.out.on hb)
      replace Y1 := Lib.hid (Y1.out.on hb)
      replace P1 := Lib.hid (P1.out.on hb)
      clear hb x0 x1 u0 u1
      obtain ⟨u0, u1⟩ := P1.out.two
      go_wp2_with fail
      refine (KF.out w4 X1.out Y1.out).mono ?_
      rintro e w5 ⟨A4, n4, c4, rfl, hl7, ho, hb⟩
      have X4 := Lib.hid (own_cl ho)
      obtain rfl : n = n4 := by rw [← hl7]; exact HN.out.1.symm
      replace HB := Lib.hid (bstep HB.out hb)
      replace C0 := Lib.hid (C0.out.on hb)
      replace D0 := Lib.hid (D0.out.on hb)
      replace X1 := Lib.hid (X1.out.on hb)
      replace Y1 := Lib.hid (Y1.out.on hb)
      replace P1 := Lib.hid (P1.out.on hb)
      clear hb ho hl7 u0 u1
      go_upto_region 18 with fail
      obtain ⟨w6, hw⟩ : ∃ W, w5.alloc (.cells #[.int .i64 cap, .slice A4 n c4] 24) = W := ⟨_, rfl⟩
      obtain ⟨gP4, hg⟩ : ∃ g, w5.heap.size = g := ⟨_, rfl⟩
      have hb : Below w5.heap.size w5 w6 := hw ▸ below_alloc _ _
      have P4 : Hid (Rw.Cel w6 gP4 [.int .i64 cap, .slice A4 n c4]) := hw ▸ hg ▸ Rw.Cel.new w5 [_, _] _
      replace HB := Lib.hid (bstep HB.out hb)
      replace C0 := Lib.hid (C0.out.on hb)
      replace D0 := Lib.hid (D0.out.on hb)
      replace X1 := Lib.hid (X1.out.on hb)
      replace Y1 := Lib.hid (Y1.out.on hb)
      replace P1 := Lib.hid (P1.out.on hb)
      replace X4 := Lib.hid (X4.out.on hb)
      first | rw [hw, hg] | rw [hw]
      clear hw hg hb
      obtain ⟨x0, x1⟩ := C0.out.two
      obtain ⟨u0, u1⟩ := P4.out.two
      go_wp2_with fail
      refine (same_eq HN.out.1 HN.out.1 X4.out (HA.out.on HB.out) hm).mono ?_
      rintro e w7 ⟨rfl, hb⟩
      replace HB := Lib.hid (bstep HB.out hb)
      replace C0 := Lib.hid (C0.out.on hb)
      replace D0 := Lib.hid (D0.out.on hb)
      replace X1 := Lib.hid (X1.out.on hb)
      replace Y1 := Lib.hid (Y1.out.on hb)
      replace P1 := Lib.hid (P1.out.on hb)
      replace X4 := Lib.hid (X4.out.on hb)
      replace P4 := Lib.hid (P4.out.on hb)
      clear hb x0 x1 u0 u1
      have ds : decide (sumZ L < t) = false := decide_eq_false (by have := HT.out; omega)
      clear X1 Y1 X4 P1 P4 KX KF OX HPL HLS N1 HOK
      obtain ⟨x0, x1⟩ := C0.out.two
      obtain ⟨y0, y1⟩ := D0.out.two
      go_wp2_with fail
      refine (K2.out w7 (HA.out.on HB.out) (HA2.out.on HB.out)).mono ?_
      rintro e wga ⟨A2, n2, c2, B2, m2, d2, rfl, hl5, hl6, ho, hp, hb⟩
      have X2 := Lib.hid (own_cl ho)
      have Y2 := Lib.hid (own_cl hp)
      have N2 := Lib.hid (And.intro hl5 hl6)
      replace HB := Lib.hid (bstep HB.out hb)
      replace C0 := Lib.hid (C0.out.on hb)
      replace D0 := Lib.hid (D0.out.on hb)
      clear hb ho hp hl5 hl6 x0 x1 y0 y1
      go_upto_region 21 with fail
      obtain ⟨wgb, hw⟩ : ∃ W, (wga.alloc (.cells #[.int .i64 PA, .slice A2 n2 c2] 24)).alloc (.cells #[.int .i64 PB, .slice B2 m2 d2] 24) = W := ⟨_, rfl⟩
      obtain ⟨g2, hg⟩ : ∃ g, wga.heap.size = g := ⟨_, rfl⟩
      have hb : Below wga.heap.size wga wgb := hw ▸ bstep (below_alloc _ _) (below_alloc _ _)
      have P2 : Hid (Rw.Cel wgb g2 [.int .i64 PA, .slice A2 n2 c2]) := hw ▸ hg ▸ (Rw.Cel.new wga [_, _] _).alloc _
      have Q2 : Hid (Rw.Cel wgb (g2 + 1) [.int .i64 PB, .slice B2 m2 d2]) := hw ▸ hg ▸ Rw.Cel.new_at _ [_, _] _ (by simp)
      replace HB := Lib.hid (bstep HB.out hb)
      replace C0 := Lib.hid (C0.out.on hb)
      replace D0 := Lib.hid (D0.out.on hb)
      replace X2 := Lib.hid (X2.out.on hb)
      replace Y2 := Lib.hid (Y2.out.on hb)
      rw [hw, hg]
      clear hw hg hb
      by_cases hz : PE = 0
      rotate_left
      · obtain ⟨z1, z2⟩ := ne_zero hz
        obtain ⟨-, -, e2, -, e3⟩ := po_no HP.out.1 hz
        have hx := HP.out.2.2.1
        have hy := HP.out.2.2.2.2
        rw [e2] at hx
        rw [e3] at hy
        obtain rfl : 0 = n2 := by rw [← N2.out.1, ← hx]; rfl
        obtain rfl : 0 = m2 := by rw [← N2.out.2, ← hy]; rfl
        clear hz e2 e3 hx hy
        obtain ⟨x0, x1⟩ := P2.out.two
        obtain ⟨y0, y1⟩ := Q2.out.two
        go_wp2_with fail
        refine (KQ.out _).mono ?_
        rintro e wq ⟨rfl, hb⟩
        have HF := Lib.hid (bstep HB.out hb)
        clear hb
        go_wp2_with fail
        go_ret
        exact ⟨rfl, HF.out⟩
      subst hz
      obtain ⟨q1, q2, q3, q4, q5⟩ := poE_of HP.out.1
      obtain ⟨-, e1, e2, e3, e4⟩ := po_yes HP.out.1
      obtain ⟨oka, t0, tl⟩ := drE_of q4
      have okb := ckC_ok q2
      have HX := HP.out.2.2.1.symm.trans e2
      have HY := HP.out.2.2.2.2.symm.trans e4
      obtain rfl : PA = cap := HP.out.2.1.symm.trans e1
      obtain rfl : PB = cb := HP.out.2.2.2.1.symm.trans e3
      subst HX HY
      have OX := Lib.hid (ok_less oka t0 tl)
      have OY := Lib.hid (ok_plus oka okb q3 t0 tl q5)
      have HPL := Lib.hid (Share.partsL_len t L)
      have HLS := Lib.hid (And.intro (less_len HPL.out) (plus_len (L := M) (by rw [HPL.out, q3])))
      obtain rfl : n = m := by have := HN.out; omega
      obtain rfl : n = n2 := by have := HN.out; have := N2.out; have := HLS.out; omega
      obtain rfl : n = m2 := by have := HN.out; have := N2.out; have := HLS.out; omega
      have KX := Lib.hid fun (W : World) (h : Cl eI W A2 (lessL L (partsL t L))) => ch_Check PA (lessL L (partsL t L)) A2 n c2 N2.out.1.symm W h hm
      have KY := Lib.hid fun (W : World) (h : Cl eI W B2 (plusL M (partsL t L))) => ch_Check PB (plusL M (partsL t L)) B2 n d2 N2.out.2.symm W h hm
      rw [OX.out.ck] at KX
      rw [OY.out.ck] at KY
      have HOK := Lib.hid (And.intro oka okb)
      have b0 : ((n : Int) == (n : Int)) = true := by simp
      have b1 : ((n : Int) != (n : Int)) = false := by simp
      have b2 : (PA != PA) = false := by simp
      have b3 : (PB != PB) = false := by simp
      clear q1 q2 q3 q4 q5 e1 e2 e3 e4 oka t0 tl okb
      obtain ⟨x0, x1⟩ := C0.out.two
      obtain ⟨y0, y1⟩ := D0.out.two
      obtain ⟨u0, u1⟩ := P2.out.two
      obtain ⟨v0, v1⟩ := Q2.out.two
      go_wp2_with fail
      clear x0 x1 y0 y1 u0 u1 v0 v1
      go_loopw [19] (fun i wr => ∃ (k : Nat), k ≤ n ∧ i = .int .i64 k ∧ Below wgb.heap.size wgb wr) (fun i _ => n - (RowKit.intOf i).toNat)
      case atStart => exact ⟨0, Nat.zero_le _, rfl, Below.refl _ _⟩
      case round =>
        obtain ⟨k, hk, rfl, hbel⟩ := hrel
        have HW := Lib.hid hbel
        clear hbel
        obtain ⟨x0, x1⟩ := (C0.out.on HW.out).two
        obtain ⟨y0, y1⟩ := (D0.out.on HW.out).two
        obtain ⟨u0, u1⟩ := (P2.out.on HW.out).two
        obtain ⟨v0, v1⟩ := (Q2.out.on HW.out).two
        rcases Nat.lt_or_ge k n with hlt | hge
        · obtain ⟨x, hx⟩ := get_lt (L := L) (k := k) (by have := HN.out.1; omega)
          obtain ⟨y, hy⟩ := get_lt (L := M) (k := k) (by have := HN.out.2; omega)
          obtain ⟨z, hz⟩ := get_lt (L := partsL t L) (k := k) (by have := HPL.out; have := HN.out; omega)
          have lx := HOK.out.1.all x (List.mem_of_getElem? hx)
          have ly := HOK.out.2.all y (List.mem_of_getElem? hy)
          have lp := OX.out.all _ (List.mem_of_getElem? (less_at hx hz))
          have lq := OY.out.all _ (List.mem_of_getElem? (plus_at hy hz))
          obtain ⟨b1', o1, rfl, hb1, h1⟩ := cl_at (HA.out.on (bstep HB.out HW.out)) hx
          obtain ⟨b2', o2, rfl, hb2, h2⟩ := cl_at (HA2.out.on (bstep HB.out HW.out)) hy
          obtain ⟨b3', o3, rfl, hb3, h3⟩ := cl_at (X2.out.on HW.out) (less_at hx hz)
          obtain ⟨b4', o4, rfl, hb4, h4⟩ := cl_at (Y2.out.on HW.out) (plus_at hy hz)
          obtain ⟨p, hp⟩ : ∃ p, x - z = p := ⟨_, rfl⟩
          obtain ⟨q, hq⟩ : ∃ q, y + z = q := ⟨_, rfl⟩
          rw [hp] at lp h3
          rw [hq] at lq h4
          obtain ⟨s, hs⟩ : ∃ s, p + q = s := ⟨_, rfl⟩
          have hs2 : x + y = s := by omega
          have hM : MM = 1099511627776 := rfl
          have ws : IntKind.i64.wrap s = s := Rw.wrap_id (by omega)
          have bs : (s != s) = false := by simp
          have i1 : (k : Int) < (n : Int) := by omega
          have i2 : (0 : Int) ≤ (k : Int) := by omega
          clear hx hy hz lx ly lp lq hp hq hb1 hb2 hb3 hb4
          go_wp2_with fail
          go_quiet (fail)
          go_wp2_with fail
          go_roundw
          case rel => exact ⟨k + 1, by omega, by go_num, below_drewN HW.out _⟩
          case measure => simp [RowKit.intOf]; omega
        · obtain rfl : k = n := by omega
          have HB5 := Lib.hid (bstep HB.out HW.out)
          have BP := Lib.hid (P2.out.on HW.out)
          have BQ := Lib.hid (Q2.out.on HW.out)
          have RX := Lib.hid (X2.out.on HW.out)
          have RY := Lib.hid (Y2.out.on HW.out)
          clear HB
          have HB := HB5
          clear HB5
          go_wp2_with fail
          refine (KX.out wr RX.out).mono ?_
          rintro e wx ⟨rfl, hb⟩
          replace HB := Lib.hid (bstep HB.out hb)
          obtain ⟨r0, r1⟩ := (BQ.out.on hb).two
          have RZ := Lib.hid (RY.out.on hb)
          clear hb x0 x1 y0 y1 u0 u1 v0 v1
          go_wp2_with fail
          refine (KY.out wx RZ.out).mono ?_
          rintro e wy ⟨rfl, hb⟩
          replace HB := Lib.hid (bstep HB.out hb)
          clear hb r0 r1
          go_wp2_with fail
          refine (KQ.out _).mono ?_
          rintro e wq ⟨rfl, hb⟩
          have HF := Lib.hid (bstep HB.out hb)
          clear hb
          go_wp2_with fail
          go_ret
          exact ⟨rfl, HF.out⟩
#print axioms walk_ChestKeeps
end Go.Proofs.Ytagjimdplmimoaa.Chest
