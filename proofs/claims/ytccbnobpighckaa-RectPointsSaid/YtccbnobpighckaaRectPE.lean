/- Contracts of the program: Cover, Rest. -/
import Derived.Test.YtccbnobpighckaaRectPD
namespace Go.Proofs.Ytccbnobpighckaa.Rect
open Go.ChangeShapes Go.WideShapes Go.RowKit Go.Lib Go.Proofs.Ytccbnobpighckaa.Rw
open Go.Proofs.Ytccbnobpighckaa.Span (hasB hasB_iff inS inS_iff chkE chk_of IsNf Nrm Sps tot)
set_option linter.unusedVariables false
set_option maxRecDepth 100000

theorem rdi_at {w : World} {A : Option Addr} {L : List Int} (h : Rd cI 1 w A L) {k : Nat} {x : Int} (hx : L[k]? = some x) : ∃ b off, A = some ⟨b, off, none⟩ ∧ b < w.heap.size ∧ w.cell? ⟨b, off + k, none⟩ = some (.int .i64 x) := by
  obtain ⟨b, off, e, hlt, hc⟩ := h k x hx
  have := hc 0 _ rfl
  rw [Nat.mul_one, Nat.add_zero] at this
  exact ⟨b, off, e, hlt, this⟩
set_option maxHeartbeats 3200000 in
theorem rect_Cover (L : List Rc) (A : Option Addr) (c : Nat) (w : World) (ha : Rcs w A L) (hm : L.length ≤ 9223372036854775807) :
    Calls Try.prog 20 #[.slice A L.length c] w fun e w' => e = .returned (.tuple #[.int .i64 (cvV L), .int .i64 (lsE L)]) ∧ Below w.heap.size w w' := by
  have HA := Lib.hid ha
  have HL := Lib.hid (rect_checkList L A c w ha hm)
  obtain ⟨E, hE⟩ : ∃ E, lsE L = E := ⟨_, rfl⟩
  rw [hE] at HL
  rw [hE]
  by_cases hz : E = 0
  rotate_left
  · obtain ⟨z1, z2⟩ := ne_tests hz
    have hv : cvV L = 0 := by unfold cvV; rw [hE, if_neg hz]
    rw [hv]
    clear ha hE hz hv
    go_enter Try.func20, Try.ntmps20
    go_wp2_with fail
    refine HL.out.mono ?_
    rintro e w1 ⟨rfl, hb⟩
    have B1 := Lib.hid hb
    clear hb
    go_wp2_with fail
    go_ret2
    exact ⟨rfl, B1.out⟩
  subst hz
  have hv : cvV L = cv L := by unfold cvV; rw [if_pos hE]
  rw [hv]
  obtain ⟨hl64, hck⟩ := lsE_of hE
  have HE := Lib.hid hE
  have HK := Lib.hid hck
  have HCu := Lib.hid fun (W : World) (h : Rcs W A L) => rect_cuts L A c W h (by omega)
  have HCl := Lib.hid fun (r : Rc) (W : World) (h : Rcs W A L) => rect_clipped L A c r W h (by omega)
  clear ha hE hv hck hm
  go_enter Try.func20, Try.ntmps20
  go_wp2_with fail
  refine HL.out.mono ?_
  rintro e w1 ⟨rfl, hb⟩
  have B1 := Lib.hid hb
  clear hb
  go_wp2_with fail
  refine (HCu.out w1 (HA.out.on B1.out)).mono ?_
  rintro e w2 ⟨A2, c2, rfl, -, hrd, hb⟩
  have B2 := Lib.hid (bstep B1.out hb)
  have R2 := Lib.hid hrd
  obtain ⟨n, hn⟩ : ∃ n, n = (cutL L).length := ⟨_, rfl⟩
  rw [← hn]
  have HN := Lib.hid hn
  have hnl : n ≤ 200000 := by have := cutL_len L; omega
  clear hb hrd hn
  go_wp2_with fail
  go_loopw [5, 6, 20] (fun x y i wr => ∃ (k : Nat) (F C : Int), k ≤ n ∧ i = .int .i64 k ∧ x = .int .i64 C ∧ y = .int .i64 F ∧ C = colTo L F ∧ (0 :: cutL L)[k]? = some F ∧ Below w2.heap.size w2 wr) (fun _ _ i _ => n - (RowKit.intOf i).toNat)
  case atStart => exact ⟨0, 0, 0, Nat.zero_le _, rfl, rfl, rfl, (colTo_zero L).symm, rfl, Below.refl _ _⟩
  case round =>
    obtain ⟨k, F, C, hk, rfl, rfl, rfl, hC, hF, hbel⟩ := hrel
    have HB := Lib.hid hbel
    have HC := Lib.hid hC
    have HF := Lib.hid hF
    clear hbel hC
    rcases Nat.lt_or_ge k n with hlt | hge
    · obtain ⟨T, hT⟩ := get_lt (L := cutL L) (k := k) (by have := HN.out; omega)
      obtain ⟨b, off, rfl, hb, e0⟩ := rdi_at (R2.out.on HB.out) hT
      have i1 : (k : Int) < (n : Int) := by omega
      have i2 : (0 : Int) ≤ (k : Int) := by omega
      obtain ⟨q0, q1, q2, -⟩ := cut_step HK.out hF hT
      have HS := Lib.hid fun (N : List (Int × Int)) (hN : IsNf (hasB (spL false (clp (strR F T) L))) N) => (cov_step HE.out hF hT hN).1
      have HCs := Lib.hid (str_ok HE.out q0 q1 q2)
      have HFn : Hid ((0 :: cutL L)[k + 1]? = some T) := Lib.hid (by rw [List.getElem?_cons_succ]; exact hT)
      have HQ := Lib.hid (And.intro q0 (And.intro q1 q2))
      clear hF hT q0 q1 q2
      obtain ⟨wq, rfl⟩ : ∃ W, W = wr := ⟨wr, rfl⟩
      go_upto_region 9 with fail
      obtain ⟨w3, hw3⟩ : ∃ W, wq.alloc (.cells #[.int .i64 0, .int .i64 12000, .int .i64 F, .int .i64 T] 23) = W := ⟨_, rfl⟩
      have E3 : Hid (Cel w3 wq.heap.size (cQ (strR F T))) := hw3 ▸ Cel.new wq (cQ (strR F T)) _
      have hb3 : Below wq.heap.size wq w3 := hw3 ▸ below_alloc _ _
      rw [hw3]
      clear hw3 e0
      have B3 := Lib.hid (bstep HB.out hb3)
      clear hb3
      obtain ⟨x0, x1, x2, x3⟩ := cel4 E3.out
      go_wp2_with fail
      refine (HCl.out (strR F T) w3 ((HA.out.on B2.out).on B3.out)).mono ?_
      rintro e w4 ⟨A4, c4, rfl, -, hr4, hb4⟩
      have B4 := Lib.hid (bstep B3.out hb4)
      obtain ⟨M, hM⟩ : ∃ M, clp (strR F T) L = M := ⟨_, rfl⟩
      rw [hM] at hr4 HS HCs ⊢
      have hMl : M.length ≤ 64 := by rw [← hM]; have := clp_len (strR F T) L; omega
      obtain ⟨n4, hn4⟩ : ∃ n4, n4 = M.length := ⟨_, rfl⟩
      rw [← hn4]
      have HSd := Lib.hid (rect_sides false 43 sid_across M A4 n4 c4 hn4 w4 hr4 (by omega))
      clear hM hr4 hb4 x0 x1 x2 x3 E3
      have HM := Lib.hid hMl
      clear hMl hn4
      go_wp2_with fail
      refine HSd.out.mono ?_
      rintro e w5 ⟨A5, c5, rfl, -, hs5, hb5⟩
      have B5 := Lib.hid (bstep B4.out hb5)
      have HTo := Lib.hid (Span.span_Total (spL false M) A5 c5 w5 hs5 (by have := spL_len false M; have := HM.out; omega))
      obtain ⟨n5, hn5⟩ : ∃ n5, n5 = (spL false M).length := ⟨_, rfl⟩
      rw [← hn5] at HTo ⊢
      clear hn5 hs5 hb5
      go_wp2_with fail
      refine HTo.out.mono ?_
      intro e w6 h
      obtain ⟨N, rfl, hN, hb6⟩ := totQ (chk_spL HCs.out false) h
      have hst := HS.out N hN
      have B6 := Lib.hid (bstep B5.out hb6)
      obtain ⟨q0, q1, q2⟩ := HQ.out
      have hcF := colTo_lim L q0
      have hcT := colTo_lim L (Int.le_trans q0 q1)
      have hmw : MW = 12000 := rfl
      have hml : ML = 17179869184 := rfl
      rw [hmw] at hcF hcT
      rw [hml] at q2
      obtain ⟨W, hW⟩ : ∃ W, tot N = W := ⟨_, rfl⟩
      rw [hW] at hst ⊢
      obtain ⟨d, hd⟩ : ∃ d, T - F = d := ⟨_, rfl⟩
      rw [hd] at hst
      obtain ⟨p, hp⟩ : ∃ p, W * d = p := ⟨_, rfl⟩
      rw [hp] at hst
      obtain ⟨C2, hC2⟩ : ∃ C2, colTo L T = C2 := ⟨_, rfl⟩
      rw [hC2, ← HC.out] at hst
      rw [← HC.out] at hcF
      rw [hC2] at hcT
      have hs : C + p = C2 := hst.symm
      have wd : IntKind.i64.wrap d = d := wrap_id (by omega)
      have wp : IntKind.i64.wrap p = p := wrap_id (by omega)
      have wC : IntKind.i64.wrap C2 = C2 := wrap_id (by omega)
      have HC2 := Lib.hid hC2
      clear h hN hb6 hW hst hC2 hcF hcT hmw hml q0 q1 q2
      go_wp2_with fail
      go_roundw
      case rel => exact ⟨k + 1, T, C2, by omega, by go_num, rfl, rfl, HC2.out.symm, HFn.out, B6.out⟩
      case measure => simp [RowKit.intOf]; omega
    · obtain rfl : k = n := by omega
      have HV : Hid (C = cv L) := Lib.hid (by rw [HC.out]; exact cut_last HK.out (by rw [← HN.out]; exact hF))
      clear hF
      go_wp2_with fail
      go_ret2
      exact ⟨ret_two HV.out rfl, bstep B2.out HB.out⟩

set_option maxHeartbeats 1600000 in
theorem rect_Rest (L : List Rc) (A : Option Addr) (c : Nat) (r : Rc) (w : World) (ha : Rcs w A L) (hm : L.length ≤ 9223372036854775807) :
    Calls Try.prog 22 #[agQ r, .slice A L.length c] w fun e w' => e = .returned (.tuple #[.int .i64 (rsV r L), .int .i64 (rsE r L)]) ∧ Below w.heap.size w w' := by
  have HA := Lib.hid ha
  have HClp := Lib.hid fun (W : World) (h : Rcs W A L) => rect_Clip L A c r W h hm
  have HAr := Lib.hid fun W => rect_Area r W
  obtain ⟨E, hE⟩ : ∃ E, rsE r L = E := ⟨_, rfl⟩
  obtain ⟨V, hV⟩ : ∃ V, rsV r L = V := ⟨_, rfl⟩
  obtain ⟨T, hT⟩ : ∃ T, clV r L = T := ⟨_, rfl⟩
  obtain ⟨n, hn⟩ : ∃ n, n = T.length := ⟨_, rfl⟩
  rw [hT, hE] at HClp
  rw [hE, hV]
  unfold LstR at HClp
  rw [← hn] at HClp
  have hTl : T.length ≤ L.length := by
    rw [← hT]; unfold clV
    split
    · exact clp_len r L
    · simp
  have HCv := Lib.hid fun (A : Option Addr) (c : Nat) (W : World) (h : Rcs W A T) => rect_Cover T A c W h (by omega)
  rw [← hn] at HCv
  by_cases hz : E = 0
  · subst hz
    obtain ⟨hr, hl⟩ := rsE_of hE
    have hTT : T = clp r L := by rw [← hT]; unfold clV; rw [if_pos hE]
    have hTe : lsE T = 0 := by
      rw [hTT]
      obtain ⟨h3, h4⟩ := lsE_of hl
      have h5 := clp_len r L
      exact lsE_ok (by omega) fun k s hs => clp_ck hr h4 s (List.mem_of_getElem? hs)
    have hTc : cvV T = cv T := by unfold cvV; rw [if_pos hTe]
    have hv : siz r - cv T = V := by
      rw [← hV, hTT]; unfold rsV
      rw [if_pos hE, rs_is hr]
    have hvl := rs_lim hr L
    have hrv : rs r L = V := by rw [← hV]; unfold rsV; rw [if_pos hE]
    rw [hrv] at hvl
    have wV : IntKind.i64.wrap V = V := wrap_id ⟨Int.le_trans (by decide) hvl.1, Int.le_trans hvl.2 (by decide)⟩
    obtain ⟨X, hX⟩ : ∃ X, siz r = X := ⟨_, rfl⟩
    obtain ⟨Y, hY⟩ : ∃ Y, cv T = Y := ⟨_, rfl⟩
    have he : arV r = X := by unfold arV; rw [if_pos (ckE_iff.mpr hr), hX]
    rw [he, ckE_iff.mpr hr] at HAr
    rw [hTc, hTe, hY] at HCv
    rw [hX, hY] at hv
    clear ha hE hV hT hn hTl hr hl hvl hrv hX hY he hTT hTe hTc
    go_enter Try.func22, Try.ntmps22
    go_upto_region 1 with fail
    obtain ⟨w0, hw0⟩ : ∃ W, w.alloc (.cells #[.int .i64 r.1, .int .i64 r.2.1, .int .i64 r.2.2.1, .int .i64 r.2.2.2] 23) = W := ⟨_, rfl⟩
    have C0 : Hid (Cel w0 w.heap.size (cQ r)) := hw0 ▸ Cel.new w (cQ r) _
    have B0 : Hid (Below w.heap.size w w0) := hw0 ▸ below_alloc _ _
    rw [hw0]
    clear hw0
    obtain ⟨x0, x1, x2, x3⟩ := cel4 C0.out
    go_wp2_with fail
    refine (HClp.out w0 (HA.out.on B0.out)).mono ?_
    rintro e w1 ⟨A1, c1, rfl, -, hr1, hb⟩
    have B1 := Lib.hid (bstep B0.out hb)
    have C1 := Lib.hid (C0.out.on hb)
    have R1 := Lib.hid hr1
    clear hb hr1 x0 x1 x2 x3
    obtain ⟨x0, x1, x2, x3⟩ := cel4 C1.out
    go_wp2_with fail
    refine (HAr.out w1).mono ?_
    rintro e w2 ⟨rfl, hb⟩
    have B2 := Lib.hid (bstep B1.out hb)
    have R2 := Lib.hid (R1.out.on hb)
    clear hb x0 x1 x2 x3
    go_wp2_with fail
    refine (HCv.out A1 c1 w2 R2.out).mono ?_
    rintro e w3 ⟨rfl, hb⟩
    have B3 := Lib.hid (bstep B2.out hb)
    clear hb
    go_wp2_with fail
    go_ret2
    exact ⟨rfl, B3.out⟩
  · obtain ⟨z1, z2⟩ := ne_tests hz
    have hv : V = 0 := by rw [← hV]; unfold rsV; rw [hE, if_neg hz]
    subst hv
    clear ha hE hV hT hn hTl hz
    go_enter Try.func22, Try.ntmps22
    go_upto_region 1 with fail
    obtain ⟨w0, hw0⟩ : ∃ W, w.alloc (.cells #[.int .i64 r.1, .int .i64 r.2.1, .int .i64 r.2.2.1, .int .i64 r.2.2.2] 23) = W := ⟨_, rfl⟩
    have C0 : Hid (Cel w0 w.heap.size (cQ r)) := hw0 ▸ Cel.new w (cQ r) _
    have B0 : Hid (Below w.heap.size w w0) := hw0 ▸ below_alloc _ _
    rw [hw0]
    clear hw0
    obtain ⟨x0, x1, x2, x3⟩ := cel4 C0.out
    go_wp2_with fail
    refine (HClp.out w0 (HA.out.on B0.out)).mono ?_
    rintro e w1 ⟨A1, c1, rfl, -, hr1, hb⟩
    have B1 := Lib.hid (bstep B0.out hb)
    clear hb hr1
    go_wp2_with fail
    go_ret2
    exact ⟨rfl, B1.out⟩
#print axioms rect_Cover
#print axioms rect_Rest
end Go.Proofs.Ytccbnobpighckaa.Rect
