/- Several texts in one: PipeAH, PipeU, PipeAI. -/
import Derived.Test.YtihklpkpcnahkaaPk12
import Derived.Test.YtihklpkpcnahkaaPk19
import Derived.Test.YtihklpkpcnahkaaPk9
import Derived.Test.YtihklpkpcnahkaaPk18
import Derived.Test.YtihklpkpcnahkaaPk1
/- Fifo, over the contracts (gen19/ah.py). -/
namespace Go.Proofs.Ytihklpkpcnahkaa.Pipe
open Go.ChangeShapes Go.WideShapes Go.RowKit Go.Lib Go.Joins
open Go.Proofs.Ytihklpkpcnahkaa.Mem (Cl eI Own)
open Go.Proofs.Ytihklpkpcnahkaa.Fibre (rr_Sum)
open Go.Proofs.Ytihklpkpcnahkaa.Vec (sumZ sumZ_nonneg plusL plus_at)
open Go.Proofs.Ytihklpkpcnahkaa.Rw (Off glt get_lt below_alloc bstep below_drewN below_drew drew_below)
set_option linter.unusedVariables false
set_option maxRecDepth 100000

/-- What is left, from its end on. -/
theorem fifo_at {kinds : Nat} (h8 : kinds ≤ 8) {P : List (List Int)} {s : Int} (s0 : 0 ≤ s) (h : Pgs kinds P) {i : Nat} (h1 : 1 ≤ i) (hi : i ≤ (rmnP s P).length) :
    ∃ x y, (rmnP s P)[(rmnP s P).length - i]? = some x ∧ P[P.length - i]? = some y ∧ x.length = kinds ∧ y.length = kinds ∧ (i < (rmnP s P).length → x = y) ∧ ∀ (k : Nat) (a b : Int), x[k]? = some a → y[k]? = some b → a ≤ b := by
  rcases rmn_tail h8 s0 h with h0 | ⟨F, l, l', R, e1, e2, e3, e4⟩
  · rw [h0] at hi; simp at hi; omega
  · rw [e2] at hi ⊢
    have hl : l.length = kinds := (h l (by rw [e1]; simp)).len
    have hPl : P.length = F.length + (R.length + 1) := by rw [e1]; simp
    rw [List.length_cons] at hi ⊢
    obtain ⟨j, hj⟩ : ∃ j, R.length + 1 - i = j := ⟨_, rfl⟩
    have hP : P[P.length - i]? = (l :: R)[j]? := by
      rw [hPl, e1, List.getElem?_append_right (by omega)]
      congr 1
      omega
    rw [hP, hj]
    cases j with
    | zero => exact ⟨l', l, rfl, rfl, by rw [e3, hl], hl, fun hlt => by omega, fun k a b ha hb => e4 k a b ha hb⟩
    | succ j =>
      obtain ⟨x, hx⟩ := get_lt (L := R) (k := j) (by omega)
      have hxl : x.length = kinds := (h x (by rw [e1]; exact List.mem_append_right _ (List.mem_cons_of_mem _ (List.mem_of_getElem? hx)))).len
      refine ⟨x, x, by rw [List.getElem?_cons_succ]; exact hx, by rw [List.getElem?_cons_succ]; exact hx, hxl, hxl, fun _ => rfl, fun k a b ha hb => ?_⟩
      rw [ha] at hb
      cases hb; exact Int.le_refl _
set_option maxHeartbeats 12800000 in
theorem walk_PipeFifo (KK : PiKit) (w : World) (hold : Int) (A : Option Addr) (c : Nat) (P : List (List Int)) (ha : Pls w A P) (hc : P.length ≤ c) (hm : P.length ≤ 9223372036854775807) (M : Option Addr) (n' c' : Nat) (m : List Int) (hM : Cl eI w M m) (hn' : m.length = n') (hm' : n' ≤ 9223372036854775807) :
    Calls Try.prog 7 #[.agg #[.int .i64 hold, .slice A P.length c], .slice M n' c'] w fun e w' => e = .returned (.bool true) ∧ Below w.heap.size w w' := by
  have HA := Lib.hid ha
  have HM := Lib.hid hM
  have KQ := Lib.hid KK.awake
  obtain ⟨n, hn⟩ : ∃ n, P.length = n := ⟨_, rfl⟩
  rw [hn] at hm hc ⊢
  have HN := Lib.hid (And.intro hn hn')
  have HCC := Lib.hid (And.intro hc (And.intro hm hm'))
  have KG := Lib.hid fun (W : World) (h : Pls W A P) => law_great hold P A n c hn W h hm
  have K1 := Lib.hid fun (W : World) (h : Pls W A P) (h2 : Cl eI W M m) => KK.push hold P m A M n c n' c' hn hc hn' W h h2 hm hm'
  obtain ⟨E, hE⟩ : ∃ x, puE hold P m = x := ⟨_, rfl⟩
  obtain ⟨H, hH⟩ : ∃ x, puH hold P m = x := ⟨_, rfl⟩
  obtain ⟨Q, hQ⟩ : ∃ x, puP hold P m = x := ⟨_, rfl⟩
  obtain ⟨O, hO⟩ : ∃ x, puO hold P m = x := ⟨_, rfl⟩
  obtain ⟨g, hg⟩ : ∃ x, grtP P = x := ⟨_, rfl⟩
  rw [hE, hH, hQ, hO] at K1
  rw [hg] at KG
  have HQL : Hid (Q.length ≤ 256) := Lib.hid (by rw [← hQ]; exact puP_len ..)
  have HEQ := Lib.hid (And.intro hE (And.intro hH (And.intro hQ hO)))
  clear hE hH hQ hO hg ha hM hn hn' hc hm hm'
  go_enter Try.func7, Try.ntmps7
  go_upto_region 1 with fail
  obtain ⟨w0, hw0⟩ : ∃ W, w.alloc (.cells #[.int .i64 hold, .slice A n c] 24) = W := ⟨_, rfl⟩
  have C0 : Hid (Rw.Cel w0 w.heap.size [.int .i64 hold, .slice A n c]) := hw0 ▸ Rw.Cel.new w [_, _] _
  have HB0 : Hid (Below w.heap.size w w0) := hw0 ▸ below_alloc _ _
  rw [hw0]
  clear hw0
  obtain ⟨x0, x1⟩ := C0.out.two
  go_wp2_with fail
  refine (KG.out w0 (HA.out.on HB0.out)).mono ?_
  rintro e w1 ⟨rfl, hb⟩
  have HB := Lib.hid (bstep HB0.out hb)
  have C1 := Lib.hid (C0.out.on hb)
  clear hb x0 x1 C0 HB0
  have gone : ∀ (d : Bool), (g = true ∨ 20 < n') ∨ (g = false ∧ ¬ 20 < n') := fun _ => by cases g <;> simp <;> omega
  rcases gone true with hl | ⟨rfl, hl⟩
  · have hd : (g = true) ∨ (g = false ∧ decide ((20 : Int) < (n' : Int)) = true) := by
      cases g
      · exact Or.inr ⟨rfl, decide_eq_true (by rcases hl with h | h; cases h; omega)⟩
      · exact Or.inl rfl
    clear hl gone
    rcases hd with rfl | ⟨rfl, d0⟩
    all_goals
      go_wp2_with fail
      refine (KQ.out _).mono ?_
      rintro e wq ⟨rfl, hb⟩
      have HF := Lib.hid (bstep HB.out hb)
      clear hb
      go_wp2_with fail
      go_ret
      exact ⟨rfl, HF.out⟩
  have d0 : decide ((20 : Int) < (n' : Int)) = false := decide_eq_false (by omega)
  have H20 := Lib.hid hl
  clear hl gone
  obtain ⟨x0, x1⟩ := C1.out.two
  go_wp2_with fail
  refine (K1.out w1 (HA.out.on HB.out) (HM.out.on HB.out)).mono ?_
  rintro e w2 ⟨A1, n1, c1, A3, n3, c3, rfl, hl1, hc1, hl3, ho, ho3, hb⟩
  have X1 := Lib.hid ho.pls
  have N1 := Lib.hid (And.intro hl1 hc1)
  have Y1 := Lib.hid (own_cl ho3).2.2
  have M1 := Lib.hid hl3
  replace HB := Lib.hid (bstep HB.out hb)
  have C2 := Lib.hid (C1.out.on hb)
  clear hb ho hl1 hc1 ho3 hl3 x0 x1 C1 d0
  go_upto_region 4 with fail
  obtain ⟨w3, hw⟩ : ∃ W, w2.alloc (.cells #[.int .i64 H, .slice A1 n1 c1] 24) = W := ⟨_, rfl⟩
  obtain ⟨gD, hg⟩ : ∃ g, w2.heap.size = g := ⟨_, rfl⟩
  have hb : Below w2.heap.size w2 w3 := hw ▸ below_alloc _ _
  have D3 : Hid (Rw.Cel w3 gD [.int .i64 H, .slice A1 n1 c1]) := hw ▸ hg ▸ Rw.Cel.new w2 [_, _] _
  replace HB := Lib.hid (bstep HB.out hb)
  replace X1 := Lib.hid (X1.out.on hb)
  have YO := Lib.hid (Y1.out.1.on hb)
  have C3 := Lib.hid (C2.out.on hb)
  first | rw [hw, hg] | rw [hw]
  clear hw hg hb C2
  by_cases hz : E = 0
  rotate_left
  · obtain ⟨z1, z2⟩ := nz hz
    obtain ⟨-, e1, e2⟩ := pu_no (show ¬ puE hold P m = 0 by rw [HEQ.out.1]; exact hz)
    obtain rfl : 0 = n1 := by have h1 := N1.out.1; rw [← HEQ.out.2.2.1, e1] at h1; exact h1
    obtain rfl : 0 = n3 := by have h1 := M1.out; rw [← HEQ.out.2.2.2, e2] at h1; exact h1
    clear hz e1 e2
    obtain ⟨y0, y1⟩ := D3.out.two
    go_wp2_with fail
    refine (KQ.out _).mono ?_
    rintro e wq ⟨rfl, hb⟩
    have HF := Lib.hid (bstep HB.out hb)
    clear hb
    go_wp2_with fail
    go_ret
    exact ⟨rfl, HF.out⟩
  subst hz
  have h00 := HEQ.out.1
  obtain ⟨e1, e2, e3⟩ := pu_ok h00
  obtain ⟨p1, p2, p3, p4⟩ := pu_of h00
  obtain ⟨ok1, ok2⟩ := pu_ok2 h00
  obtain ⟨ki, hki⟩ : ∃ x, kin P = x := ⟨_, rfl⟩
  rw [hki] at ok1 ok2 p2 e3
  obtain rfl : H = hold := by rw [← HEQ.out.2.1]; exact e1
  have hQ : Q = newP P m := by rw [← HEQ.out.2.2.1]; exact e2
  have hO : O = outP ki (sumZ m) P := by rw [← HEQ.out.2.2.2]; exact e3
  rw [← hQ] at ok2
  obtain rfl : n' = ki := by have := (push_sum p2).2; have := HN.out.2; omega
  have hcont := newP_cont ok1 p2
  rw [← hQ, ← hO] at hcont
  have hOn := out_nonneg ok1.k8 (push_sum p2).1 ok1.all
  have hOs := out_sum ok1.k8 (push_sum p2).1 (by rw [ok1.sum]; exact p3) ok1.all
  have hOl := out_len (s := sumZ m) ok1.k8 ok1.all
  rw [← hO] at hOn hOs hOl
  have HCo := Lib.hid hcont
  have HOn := Lib.hid (And.intro hOn (And.intro hOs hOl))
  have OK1 := Lib.hid ok1
  have OK2 := Lib.hid ok2
  have HQE := Lib.hid hQ
  have HPP := Lib.hid (And.intro p1 (And.intro p2 p3))
  obtain rfl : n3 = n' := by have := M1.out; omega
  have KC1 := Lib.hid fun (W : World) (h : Pls W A P) => KK.content H P A n c HN.out.1 W h HCC.out.2.1
  have KC2 := Lib.hid fun (W : World) (h : Pls W A1 Q) => KK.content H Q A1 n1 c1 N1.out.1 W h (by have := N1.out.1; have := HQL.out; omega)
  have KCk := Lib.hid fun (W : World) (h : Pls W A1 Q) => KK.check H Q A1 n1 c1 N1.out.1 W h (by have := N1.out.1; have := HQL.out; omega)
  have q1 : coL H P = cont n3 P := by unfold coL; rw [if_pos p1, hki]
  have q2 : coL H Q = cont n3 Q := by unfold coL; rw [if_pos ok2.err, ok2.kin]
  rw [p1, q1] at KC1
  rw [ok2.err, q2] at KC2
  rw [ok2.err] at KCk
  clear e1 e2 e3 p1 p2 p3 p4 ok1 ok2 hQ hO hcont hOn hOs hOl q1 q2 hki h00
  obtain ⟨x0, x1⟩ := C3.out.two
  obtain ⟨y0, y1⟩ := D3.out.two
  go_wp2_with fail
  refine (KC1.out w3 (HA.out.on HB.out)).mono ?_
  rintro e w4 ⟨A5, n5, c5, rfl, hl5, ho5, hb⟩
  obtain rfl : n5 = n3 := by rw [← hl5]; exact cont_len OK1.out.all
  have C4 := Lib.hid (C3.out.on hb)
  have D4 := Lib.hid (D3.out.on hb)
  have X4 := Lib.hid (X1.out.on hb)
  have Y4 := Lib.hid (YO.out.on hb)
  have Z4 := Lib.hid (own_cl ho5).2.2.1
  replace HB := Lib.hid (bstep HB.out hb)
  clear hb hl5 ho5 x0 x1 y0 y1 C3 D3 X1 YO KC1
  obtain ⟨x0, x1⟩ := C4.out.two
  obtain ⟨y0, y1⟩ := D4.out.two
  go_wp2_with fail
  refine (KC2.out w4 X4.out).mono ?_
  rintro e w5 ⟨A6, n6, c6, rfl, hl6, ho6, hb⟩
  obtain rfl : n6 = n5 := by rw [← hl6]; exact cont_len OK2.out.all
  have C5 := Lib.hid (C4.out.on hb)
  have D5 := Lib.hid (D4.out.on hb)
  have X5 := Lib.hid (X4.out.on hb)
  have Y5 := Lib.hid (Y4.out.on hb)
  have Z5 := Lib.hid (Z4.out.on hb)
  have V5 := Lib.hid (own_cl ho6).2.2.1
  replace HB := Lib.hid (bstep HB.out hb)
  clear hb hl6 ho6 x0 x1 y0 y1 C4 D4 X4 Y4 Z4 KC2
  obtain ⟨x0, x1⟩ := C5.out.two
  obtain ⟨y0, y1⟩ := D5.out.two
  go_wp2_with fail
  refine (KCk.out w5 X5.out).mono ?_
  rintro e w6 ⟨rfl, hb⟩
  have C6 := Lib.hid (C5.out.on hb)
  have D6 := Lib.hid (D5.out.on hb)
  have X6 := Lib.hid (X5.out.on hb)
  have Y6 := Lib.hid (Y5.out.on hb)
  have Z6 := Lib.hid (Z5.out.on hb)
  have V6 := Lib.hid (V5.out.on hb)
  replace HB := Lib.hid (bstep HB.out hb)
  clear hb x0 x1 y0 y1 C5 D5 X5 Y5 Z5 V5 KCk
  have M6 := Lib.hid (HM.out.on HB.out)
  have P6 := Lib.hid (HA.out.on HB.out)
  have K8 := Lib.hid OK1.out.k8
  go_wp2_with fail
  go_loopw [12] (fun iv wr => ∃ i : Nat, i ≤ n6 ∧ iv = .int .i64 i ∧ Below w6.heap.size w6 wr) (fun iv _ => n6 - (RowKit.intOf iv).toNat)
  case atStart => exact ⟨0, Nat.zero_le _, rfl, Below.refl _ _⟩
  case round =>
    obtain ⟨i, hi, rfl, hbel⟩ := hrel
    have HW := Lib.hid hbel
    clear hbel
    rcases Nat.lt_or_ge i n6 with hli | hgi
    · obtain ⟨va, hva⟩ := get_lt (L := cont n6 P) (k := i) (by rw [cont_len OK1.out.all]; exact hli)
      obtain ⟨vb, hvb⟩ := get_lt (L := cont n6 Q) (k := i) (by rw [cont_len OK2.out.all]; exact hli)
      obtain ⟨vm, hvm⟩ := get_lt (L := m) (k := i) (by have := HN.out.2; omega)
      obtain ⟨vo, hvo⟩ := get_lt (L := O) (k := i) (by rw [HOn.out.2.2]; exact hli)
      obtain ⟨ba, oa, hAa, hba, ea⟩ := Fibre.cl_at (Z6.out.on HW.out) hva
      obtain ⟨bb, ob, hAb, hbb, eb⟩ := Fibre.cl_at (V6.out.on HW.out) hvb
      obtain ⟨bm, om, hAm, hbm, em⟩ := Fibre.cl_at (M6.out.on HW.out) hvm
      obtain ⟨bo, oo, hAo, hbo, eo⟩ := Fibre.cl_at (Y6.out.on HW.out) hvo
      subst hAa
      subst hAb
      subst hAm
      subst hAo
      have h1 := plus_at hvb hvo
      have h2 := plus_at hva hvm
      rw [HCo.out, h2] at h1
      have hsum : va + vm = vb + vo := Option.some.inj h1
      have la := cont_lim OK1.out (k := P.length) (Nat.le_refl _) va (by rw [List.take_length]; exact List.mem_of_getElem? hva)
      have lm := (Fibre.lisE_of HPP.out.2.1).2.2.2 vm (List.mem_of_getElem? hvm)
      have lo := HOn.out.1 vo (List.mem_of_getElem? hvo)
      have hM : Fibre.MM = 1099511627776 := rfl
      obtain ⟨t, ht⟩ : ∃ t, va + vm = t := ⟨_, rfl⟩
      have ht2 : vb + vo = t := by omega
      have wt : IntKind.i64.wrap t = t := Rw.wrap_id (by omega)
      have d1 : decide (vo < 0) = false := decide_eq_false (by omega)
      have i1 : (i : Int) < (n6 : Int) := by omega
      have i2 : (0 : Int) ≤ (i : Int) := by omega
      have hi1 : IntKind.i64.wrap ((i : Int) + 1) = ((i + 1 : Nat) : Int) := Rw.wrap_id (by have := K8.out; omega)
      have HLI := Lib.hid hli
      clear hva hvb hvm hvo hba hbb hbm hbo h1 h2 hsum la lm lo hM
      go_wp2_with fail
      go_quiet (fail)
      go_wp2_with fail
      go_roundw
      case rel => exact ⟨i + 1, HLI.out, by go_num, below_drewN HW.out _⟩
      case measure => have := HLI.out; simp [RowKit.intOf]; omega
    · obtain rfl : n6 = i := by omega
      have C7 := Lib.hid (C6.out.on HW.out)
      have D7 := Lib.hid (D6.out.on HW.out)
      have X7 := Lib.hid (X6.out.on HW.out)
      have Y7 := Lib.hid (Y6.out.on HW.out)
      have M7 := Lib.hid (M6.out.on HW.out)
      have P7 := Lib.hid (P6.out.on HW.out)
      have HB7 := Lib.hid (bstep HB.out HW.out)
      obtain ⟨y0, y1⟩ := D7.out.two
      go_wp2_with fail
      have hS0 : 0 ≤ sumZ m := (push_sum HPP.out.2.1).1
      have hOz : ∀ z ∈ O, 0 ≤ z ∧ z ≤ Fibre.MM := fun z hz => by
        obtain ⟨j, hj⟩ := List.mem_iff_getElem?.mp hz
        have h1 := Vec.le_sum HOn.out.1 hj
        have h2 := HOn.out.2.1
        have h3 := HPP.out.2.2
        have h4 := OK1.out.h2
        exact ⟨HOn.out.1 z hz, by omega⟩
      have hmz := (Fibre.lisE_of HPP.out.2.1).2.2.2
      have KS1 := Lib.hid fun (W : World) (h : Cl eI W A3 O) => rr_Sum O A3 n6 c3 HOn.out.2.2.symm W h K8.out hOz
      have KS2 := Lib.hid fun (W : World) (h : Cl eI W M m) => rr_Sum m M n6 c' HN.out.2.symm W h K8.out hmz
      obtain ⟨S, hS⟩ : ∃ S, sumZ m = S := ⟨_, rfl⟩
      have e5 : Fibre.sumZ O = S := HOn.out.2.1.trans hS
      have e6 : Fibre.sumZ m = S := hS
      rw [e5] at KS1
      rw [e6] at KS2
      rw [hS] at hS0
      have HFA := Lib.hid fun (i : Nat) (h1 : 1 ≤ i) (hi : i ≤ (rmnP S P).length) => fifo_at OK1.out.k8 hS0 OK1.out.all h1 hi
      obtain ⟨U, hU⟩ : ∃ U, rmnP S P = U := ⟨_, rfl⟩
      have hUl : U.length ≤ n := by have h1 := rmn_len P S; have h2 := HN.out.1; rw [hU] at h1; omega
      have hQU : Q = U ++ (if 0 < S then [m] else []) := by rw [HQE.out]; unfold newP; rw [hS, hU]
      rw [hU] at HFA
      have HU := Lib.hid (And.intro hUl hQU)
      have HNP := Lib.hid (show n ≤ 256 by have := OK1.out.n2; have := HN.out.1; omega)
      have hk6 : 0 < n6 := by have := OK1.out.k1; omega
      clear hS0 hOz hmz hS e5 e6 hU hUl hQU
      refine (KS1.out _ Y7.out).mono ?_
      rintro e w8 ⟨rfl, hb⟩
      have C8 := Lib.hid (C7.out.on hb)
      have D8 := Lib.hid (D7.out.on hb)
      have X8 := Lib.hid (X7.out.on hb)
      have M8 := Lib.hid (M7.out.on hb)
      have P8 := Lib.hid (P7.out.on hb)
      have HB8 := Lib.hid (bstep HB7.out hb)
      clear hb C7 D7 X7 Y7 M7 P7 HB7 C6 D6 X6 Y6 Z6 V6 M6 P6 HW y0 y1
      go_wp2_with fail
      refine (KS2.out _ M8.out).mono ?_
      rintro e w9 ⟨rfl, hb⟩
      have C9 := Lib.hid (C8.out.on hb)
      have D9 := Lib.hid (D8.out.on hb)
      have X9 := Lib.hid (X8.out.on hb)
      have M9 := Lib.hid (M8.out.on hb)
      have P9 := Lib.hid (P8.out.on hb)
      have HB9 := Lib.hid (bstep HB8.out hb)
      clear hb C8 D8 X8 M8 P8 HB8
      go_wp2_with fail
      refine (KS2.out _ M9.out).mono ?_
      rintro e wa ⟨rfl, hb⟩
      have CA := Lib.hid (C9.out.on hb)
      have DA := Lib.hid (D9.out.on hb)
      have XA := Lib.hid (X9.out.on hb)
      have MA := Lib.hid (M9.out.on hb)
      have PA := Lib.hid (P9.out.on hb)
      have HBA := Lib.hid (bstep HB9.out hb)
      clear hb C9 D9 X9 M9 P9 HB9
      obtain ⟨r, hr⟩ : ∃ r, U.length = r := ⟨_, rfl⟩
      have HR := Lib.hid hr
      rcases Int.lt_or_le 0 S with hpos | hnp
      · have d1 : decide (0 < S) = true := decide_eq_true hpos
        have hQ2 := HU.out.2
        rw [if_pos hpos] at hQ2
        have HRN : Hid (n1 = r + 1) := Lib.hid (by have h1 := N1.out.1; rw [hQ2, List.length_append, hr] at h1; exact h1.symm)
        have hQr : Q[r]? = some m := by rw [hQ2, List.getElem?_append_right (by omega), hr, Nat.sub_self]; rfl
        have HQR : Hid (∀ (j : Nat) (x : List Int), U[j]? = some x → Q[j]? = some x) := Lib.hid fun j x hx => by rw [hQ2, List.getElem?_append_left (by have := glt hx; omega)]; exact hx
        obtain ⟨b2, o2, A7, n7, c7, hA1, hb2, e2, hl7, hcl7, hm7⟩ := pls_at XA.out hQr
        obtain rfl : n6 = n7 := by have := HN.out.2; omega
        have HE7 := Lib.hid (And.intro hb2 e2)
        have HC7 := Lib.hid hcl7
        subst hA1
        obtain ⟨x0, x1⟩ := CA.out.two
        obtain ⟨y0, y1⟩ := DA.out.two
        have hs1 : (n1 : Int) - 1 = (r : Int) := by have := HRN.out; omega
        have wr1 : IntKind.i64.wrap (r : Int) = r := Rw.wrap_id (by have := HRN.out; have := N1.out.1; have := HQL.out; omega)
        have d2 : decide ((r : Int) < 0) = false := decide_eq_false (by omega)
        have i5 : (r : Int) < (n1 : Int) := by have := HRN.out; omega
        have i6 : (0 : Int) ≤ (r : Int) := by omega
        have i7 : r < n1 := by have := HRN.out; omega
        clear hpos hQ2 hQr hb2 hl7 hcl7 hm7 hr
        go_wp2_with fail
        refine (list_eq HN.out.2 HN.out.2 HC7.out MA.out (by have := K8.out; omega)).mono ?_
        rintro e wz ⟨rfl, hb⟩
        have CZ := Lib.hid (CA.out.on hb)
        have DZ := Lib.hid (DA.out.on hb)
        have XZ := Lib.hid (XA.out.on hb)
        have PZ := Lib.hid (PA.out.on hb)
        have HBZ := Lib.hid (bstep HBA.out hb)
        have HRB : Hid (r ≤ n1 ∧ r ≤ n ∧ n1 ≤ 256) := Lib.hid (by have := HRN.out; have := HU.out.1; have := HR.out; have := N1.out.1; have := HQL.out; omega)
        clear hb CA DA XA MA PA HBA x0 x1 y0 y1 e2 d1 d2 i5 i6 i7 hs1 wr1
        go_upto_region 22 with fail
        obtain ⟨x0, x1⟩ := CZ.out.two
        have d3 : decide ((n : Int) < (r : Int)) = false := decide_eq_false (by have := HRB.out; omega)
        have d3b : ¬ n < r := by have := HRB.out; omega
        have d3c : r ≤ n := by omega
        go_upto_region 24 with fail
        clear x0 x1 d3 d3b d3c
        go_wp2_with fail
        go_loopw [14, 15, 16, 17] (fun iv _ _ _ wr => ∃ i : Nat, 1 ≤ i ∧ i ≤ r + 1 ∧ iv = .int .i64 i ∧ Below wz.heap.size wz wr) (fun iv _ _ _ _ => r + 1 - (RowKit.intOf iv).toNat)
        case atStart => exact ⟨1, Nat.le_refl _, by omega, rfl, Below.refl _ _⟩
        case round =>
          obtain ⟨i, h1i, hi, rfl, hbel⟩ := hrel
          have HW := Lib.hid hbel
          clear hbel
          rcases Nat.lt_or_ge r i with hgt | hle
          · obtain rfl : i = r + 1 := by omega
            have d4 : decide (((r + 1 : Nat) : Int) ≤ (r : Int)) = false := decide_eq_false (by omega)
            have d5 : ¬ ((r + 1 : Nat) : Int) ≤ (r : Int) := by omega
            go_wp2_with fail
            refine (KQ.out _).mono ?_
            rintro e wq ⟨rfl, hb⟩
            have HF := Lib.hid (bstep (bstep HBZ.out HW.out) hb)
            clear hb
            go_wp2_with fail
            go_ret
            exact ⟨rfl, HF.out⟩
          · obtain ⟨vx, vy, hx, hy, hxl, hyl, hxe, hxy⟩ := HFA.out i h1i (by have := HR.out; omega)
            obtain ⟨j, hj⟩ : ∃ j, r - i = j := ⟨_, rfl⟩
            obtain ⟨jj, hjj⟩ : ∃ j, n - i = j := ⟨_, rfl⟩
            rw [HR.out] at hx hxe
            rw [HN.out.1] at hy
            rw [hj] at hx
            rw [hjj] at hy
            obtain ⟨bx, ox, Ax, nx, cx, hAx, hbx, ex, hlx, hclx, -⟩ := pls_at (XZ.out.on HW.out) (HQR.out j vx hx)
            cases hAx
            obtain ⟨by_, oy, Ay, ny, cy, hAy, hby, ey, hly, hcly, -⟩ := pls_at (PZ.out.on HW.out) hy
            subst hAy
            obtain rfl : n6 = nx := by rw [← hlx]; exact hxl.symm
            obtain rfl : n6 = ny := by rw [← hly]; exact hyl.symm
            have HXY := Lib.hid hxy
            have HXE := Lib.hid hxe
            have HXL := Lib.hid (And.intro hxl hyl)
            have HCX := Lib.hid (And.intro hclx hcly)
            have hji : (r : Int) - (i : Int) = (j : Int) := by omega
            have hjji : (n : Int) - (i : Int) = (jj : Int) := by have := HRB.out; omega
            have wj : IntKind.i64.wrap (j : Int) = j := Rw.wrap_id (by have := HRB.out; omega)
            have wjj : IntKind.i64.wrap (jj : Int) = jj := Rw.wrap_id (by have := HRB.out; have := HNP.out; omega)
            have i1 : (j : Int) < (n1 : Int) := by have := HRB.out; omega
            have i2 : (0 : Int) ≤ (j : Int) := by omega
            have i3 : (jj : Int) < (n : Int) := by have := HRB.out; omega
            have i4 : (0 : Int) ≤ (jj : Int) := by omega
            have d4 : (i : Int) ≤ (r : Int) := by omega
            have d4b : i ≤ r := hle
            have hi1 : IntKind.i64.wrap ((i : Int) + 1) = ((i + 1 : Nat) : Int) := Rw.wrap_id (by have := HRB.out; omega)
            have HIR := Lib.hid (And.intro h1i hle)
            obtain ⟨x0, x1⟩ := (CZ.out.on HW.out).two
            obtain ⟨y0, y1⟩ := (DZ.out.on HW.out).two
            clear hx hy hxl hyl hxe hxy hbx hlx hclx hby hly hcly hj hjj h1i hi
            go_wp2_with fail
            go_quiet (fail)
            have BQ : Hid (Below wz.heap.size wz (wr.drewN nq)) := Lib.hid (below_drewN HW.out _)
            have HCQ : Hid (Cl eI (wr.drewN nq) Ax vx ∧ Cl eI (wr.drewN nq) Ay vy) := Lib.hid ⟨HCX.out.1.on (below_drewN (Below.refl _ _) _), HCX.out.2.on (below_drewN (Below.refl _ _) _)⟩
            generalize wr.drewN nq = wq at *
            clear x0 x1 y0 y1 ex ey hji hjji wj wjj i1 i2 i3 i4 HCX
            rcases Nat.lt_or_ge i r with hlt | hge
            · have d6 : (i : Int) < (r : Int) := by omega
              have d7 : decide ((i : Int) < (r : Int)) = true := decide_eq_true d6
              have d8 : i < r := hlt
              obtain rfl : vx = vy := HXE.out hlt
              go_wp2_with fail
              refine (list_eq HXL.out.1 HXL.out.1 HCQ.out.1 HCQ.out.2 (by have := K8.out; omega)).mono ?_
              rintro e wv ⟨rfl, hb⟩
              have BV := Lib.hid (bstep BQ.out hb)
              have HCV : Hid (Cl eI wv Ax vx ∧ Cl eI wv Ay vx) := Lib.hid ⟨HCQ.out.1.on hb, HCQ.out.2.on hb⟩
              clear hb d6 d7 d8 hlt
              go_upto_region 30 with fail
              go_wp2_with fail
              go_loopw [17] (fun kv wr2 => ∃ k : Nat, k ≤ n6 ∧ kv = .int .i64 k ∧ Below wv.heap.size wv wr2) (fun kv _ => n6 - (RowKit.intOf kv).toNat)
              case atStart => exact ⟨0, Nat.zero_le _, rfl, Below.refl _ _⟩
              case round =>
                obtain ⟨k, hk, rfl, hbel⟩ := hrel
                have HV := Lib.hid hbel
                clear hbel
                rcases Nat.lt_or_ge k n6 with hlk | hgk
                · obtain ⟨zx, hzx⟩ := get_lt (L := vx) (k := k) (by have := HXL.out.1; omega)
                  obtain ⟨zy, hzy⟩ := get_lt (L := vx) (k := k) (by have := HXL.out.2; omega)
                  have hzz := HXY.out k zx zy hzx hzy
                  obtain ⟨bx', ox', hAx, hbx, ex⟩ := Fibre.cl_at (HCV.out.1.on HV.out) hzx
                  obtain ⟨by', oy', hAy, hby, ey⟩ := Fibre.cl_at (HCV.out.2.on HV.out) hzy
                  subst hAx
                  subst hAy
                  have d9 : decide (zy < zx) = false := decide_eq_false (by omega)
                  have k1 : (k : Int) < (n6 : Int) := by omega
                  have k2 : (0 : Int) ≤ (k : Int) := by omega
                  have hk1 : IntKind.i64.wrap ((k : Int) + 1) = ((k + 1 : Nat) : Int) := Rw.wrap_id (by have := K8.out; omega)
                  have HLK := Lib.hid hlk
                  clear hzx hzy hzz hbx hby
                  go_wp2_with fail
                  go_quiet (fail)
                  go_wp2_with fail
                  go_roundw
                  case rel => exact ⟨k + 1, HLK.out, by go_num, below_drewN HV.out _⟩
                  case measure => have := HLK.out; simp [RowKit.intOf]; omega
                · obtain rfl : n6 = k := by omega
                  go_wp2_with fail
                  go_roundw
                  case rel => exact ⟨i + 1, by omega, by have := HIR.out; omega, by go_num, bstep BV.out HV.out⟩
                  case measure => have := HIR.out; simp [RowKit.intOf]; omega
            · have d6 : ¬ (i : Int) < (r : Int) := by omega
              have d7 : decide ((i : Int) < (r : Int)) = false := decide_eq_false d6
              have d8 : ¬ i < r := by omega
              have BV := Lib.hid BQ.out
              have HCV := Lib.hid HCQ.out
              obtain ⟨wv, hwv⟩ : ∃ W, W = wq := ⟨_, rfl⟩
              rw [← hwv] at BV HCV ⊢
              clear hwv hge
              go_upto_region 30 with fail
              clear d6 d7 d8
              go_wp2_with fail
              go_loopw [17] (fun kv wr2 => ∃ k : Nat, k ≤ n6 ∧ kv = .int .i64 k ∧ Below wv.heap.size wv wr2) (fun kv _ => n6 - (RowKit.intOf kv).toNat)
              case atStart => exact ⟨0, Nat.zero_le _, rfl, Below.refl _ _⟩
              case round =>
                obtain ⟨k, hk, rfl, hbel⟩ := hrel
                have HV := Lib.hid hbel
                clear hbel
                rcases Nat.lt_or_ge k n6 with hlk | hgk
                · obtain ⟨zx, hzx⟩ := get_lt (L := vx) (k := k) (by have := HXL.out.1; omega)
                  obtain ⟨zy, hzy⟩ := get_lt (L := vy) (k := k) (by have := HXL.out.2; omega)
                  have hzz := HXY.out k zx zy hzx hzy
                  obtain ⟨bx', ox', hAx, hbx, ex⟩ := Fibre.cl_at (HCV.out.1.on HV.out) hzx
                  obtain ⟨by', oy', hAy, hby, ey⟩ := Fibre.cl_at (HCV.out.2.on HV.out) hzy
                  subst hAx
                  subst hAy
                  have d9 : decide (zy < zx) = false := decide_eq_false (by omega)
                  have k1 : (k : Int) < (n6 : Int) := by omega
                  have k2 : (0 : Int) ≤ (k : Int) := by omega
                  have hk1 : IntKind.i64.wrap ((k : Int) + 1) = ((k + 1 : Nat) : Int) := Rw.wrap_id (by have := K8.out; omega)
                  have HLK := Lib.hid hlk
                  clear hzx hzy hzz hbx hby
                  go_wp2_with fail
                  go_quiet (fail)
                  go_wp2_with fail
                  go_roundw
                  case rel => exact ⟨k + 1, HLK.out, by go_num, below_drewN HV.out _⟩
                  case measure => have := HLK.out; simp [RowKit.intOf]; omega
                · obtain rfl : n6 = k := by omega
                  go_wp2_with fail
                  go_roundw
                  case rel => exact ⟨i + 1, by omega, by have := HIR.out; omega, by go_num, bstep BV.out HV.out⟩
                  case measure => have := HIR.out; simp [RowKit.intOf]; omega
      · have d1 : decide (0 < S) = false := decide_eq_false (by omega)
        have hQ2 := HU.out.2
        rw [if_neg (by omega), List.append_nil] at hQ2
        have HRN : Hid (n1 = r) := Lib.hid (by have h1 := N1.out.1; rw [hQ2, hr] at h1; exact h1.symm)
        have HQR : Hid (∀ (j : Nat) (x : List Int), U[j]? = some x → Q[j]? = some x) := Lib.hid fun j x hx => by rw [hQ2]; exact hx
        obtain rfl : n1 = r := HRN.out
        have HRB : Hid (n1 ≤ n1 ∧ n1 ≤ n ∧ n1 ≤ 256) := Lib.hid (by have := HU.out.1; have := HR.out; have := N1.out.1; have := HQL.out; omega)
        obtain ⟨b2, o2, hA1⟩ : ∃ b2 o2, A1 = some ⟨b2, o2, none⟩ := by
          have h1 := OK2.out.n1
          obtain ⟨x, hx⟩ := get_lt (L := Q) (k := 0) (by omega)
          obtain ⟨b2, o2, -, -, -, e, -⟩ := pls_at XA.out hx
          exact ⟨b2, o2, e⟩
        subst hA1
        have CZ := Lib.hid CA.out
        have DZ := Lib.hid DA.out
        have XZ := Lib.hid XA.out
        have PZ := Lib.hid PA.out
        have HBZ := Lib.hid HBA.out
        obtain ⟨wz, hwz⟩ : ∃ W, W = wa := ⟨_, rfl⟩
        rw [← hwz] at CZ DZ XZ PZ HBZ ⊢
        clear hwz hnp hQ2 hr CA DA XA MA PA HBA
        obtain ⟨y0, y1⟩ := DZ.out.two
        go_upto_region 22 with fail
        obtain ⟨x0, x1⟩ := CZ.out.two
        have d3 : decide ((n : Int) < (n1 : Int)) = false := decide_eq_false (by have := HRB.out; omega)
        have d3b : ¬ n < n1 := by have := HRB.out; omega
        have d3c : n1 ≤ n := by omega
        go_upto_region 24 with fail
        clear x0 x1 d3 d3b d3c
        go_wp2_with fail
        go_loopw [14, 15, 16, 17] (fun iv _ _ _ wr => ∃ i : Nat, 1 ≤ i ∧ i ≤ n1 + 1 ∧ iv = .int .i64 i ∧ Below wz.heap.size wz wr) (fun iv _ _ _ _ => n1 + 1 - (RowKit.intOf iv).toNat)
        case atStart => exact ⟨1, Nat.le_refl _, by omega, rfl, Below.refl _ _⟩
        case round =>
          obtain ⟨i, h1i, hi, rfl, hbel⟩ := hrel
          have HW := Lib.hid hbel
          clear hbel
          rcases Nat.lt_or_ge n1 i with hgt | hle
          · obtain rfl : i = n1 + 1 := by omega
            have d4 : decide (((n1 + 1 : Nat) : Int) ≤ (n1 : Int)) = false := decide_eq_false (by omega)
            have d5 : ¬ ((n1 + 1 : Nat) : Int) ≤ (n1 : Int) := by omega
            go_wp2_with fail
            refine (KQ.out _).mono ?_
            rintro e wq ⟨rfl, hb⟩
            have HF := Lib.hid (bstep (bstep HBZ.out HW.out) hb)
            clear hb
            go_wp2_with fail
            go_ret
            exact ⟨rfl, HF.out⟩
          · obtain ⟨vx, vy, hx, hy, hxl, hyl, hxe, hxy⟩ := HFA.out i h1i (by have := HR.out; omega)
            obtain ⟨j, hj⟩ : ∃ j, n1 - i = j := ⟨_, rfl⟩
            obtain ⟨jj, hjj⟩ : ∃ j, n - i = j := ⟨_, rfl⟩
            rw [HR.out] at hx hxe
            rw [HN.out.1] at hy
            rw [hj] at hx
            rw [hjj] at hy
            obtain ⟨bx, ox, Ax, nx, cx, hAx, hbx, ex, hlx, hclx, -⟩ := pls_at (XZ.out.on HW.out) (HQR.out j vx hx)
            cases hAx
            obtain ⟨by_, oy, Ay, ny, cy, hAy, hby, ey, hly, hcly, -⟩ := pls_at (PZ.out.on HW.out) hy
            subst hAy
            obtain rfl : n6 = nx := by rw [← hlx]; exact hxl.symm
            obtain rfl : n6 = ny := by rw [← hly]; exact hyl.symm
            have HXY := Lib.hid hxy
            have HXE := Lib.hid hxe
            have HXL := Lib.hid (And.intro hxl hyl)
            have HCX := Lib.hid (And.intro hclx hcly)
            have hji : (n1 : Int) - (i : Int) = (j : Int) := by omega
            have hjji : (n : Int) - (i : Int) = (jj : Int) := by have := HRB.out; omega
            have wj : IntKind.i64.wrap (j : Int) = j := Rw.wrap_id (by have := HRB.out; omega)
            have wjj : IntKind.i64.wrap (jj : Int) = jj := Rw.wrap_id (by have := HRB.out; have := HNP.out; omega)
            have i1 : (j : Int) < (n1 : Int) := by have := HRB.out; omega
            have i2 : (0 : Int) ≤ (j : Int) := by omega
            have i3 : (jj : Int) < (n : Int) := by have := HRB.out; omega
            have i4 : (0 : Int) ≤ (jj : Int) := by omega
            have d4 : (i : Int) ≤ (n1 : Int) := by omega
            have d4b : i ≤ n1 := hle
            have hi1 : IntKind.i64.wrap ((i : Int) + 1) = ((i + 1 : Nat) : Int) := Rw.wrap_id (by have := HRB.out; omega)
            have HIR := Lib.hid (And.intro h1i hle)
            obtain ⟨x0, x1⟩ := (CZ.out.on HW.out).two
            obtain ⟨y0, y1⟩ := (DZ.out.on HW.out).two
            clear hx hy hxl hyl hxe hxy hbx hlx hclx hby hly hcly hj hjj h1i hi
            go_wp2_with fail
            go_quiet (fail)
            have BQ : Hid (Below wz.heap.size wz (wr.drewN nq)) := Lib.hid (below_drewN HW.out _)
            have HCQ : Hid (Cl eI (wr.drewN nq) Ax vx ∧ Cl eI (wr.drewN nq) Ay vy) := Lib.hid ⟨HCX.out.1.on (below_drewN (Below.refl _ _) _), HCX.out.2.on (below_drewN (Below.refl _ _) _)⟩
            generalize wr.drewN nq = wq at *
            clear x0 x1 y0 y1 ex ey hji hjji wj wjj i1 i2 i3 i4 HCX
            rcases Nat.lt_or_ge i n1 with hlt | hge
            · have d6 : (i : Int) < (n1 : Int) := by omega
              have d7 : decide ((i : Int) < (n1 : Int)) = true := decide_eq_true d6
              have d8 : i < n1 := hlt
              obtain rfl : vx = vy := HXE.out hlt
              go_wp2_with fail
              refine (list_eq HXL.out.1 HXL.out.1 HCQ.out.1 HCQ.out.2 (by have := K8.out; omega)).mono ?_
              rintro e wv ⟨rfl, hb⟩
              have BV := Lib.hid (bstep BQ.out hb)
              have HCV : Hid (Cl eI wv Ax vx ∧ Cl eI wv Ay vx) := Lib.hid ⟨HCQ.out.1.on hb, HCQ.out.2.on hb⟩
              clear hb d6 d7 d8 hlt
              go_upto_region 30 with fail
              go_wp2_with fail
              go_loopw [17] (fun kv wr2 => ∃ k : Nat, k ≤ n6 ∧ kv = .int .i64 k ∧ Below wv.heap.size wv wr2) (fun kv _ => n6 - (RowKit.intOf kv).toNat)
              case atStart => exact ⟨0, Nat.zero_le _, rfl, Below.refl _ _⟩
              case round =>
                obtain ⟨k, hk, rfl, hbel⟩ := hrel
                have HV := Lib.hid hbel
                clear hbel
                rcases Nat.lt_or_ge k n6 with hlk | hgk
                · obtain ⟨zx, hzx⟩ := get_lt (L := vx) (k := k) (by have := HXL.out.1; omega)
                  obtain ⟨zy, hzy⟩ := get_lt (L := vx) (k := k) (by have := HXL.out.2; omega)
                  have hzz := HXY.out k zx zy hzx hzy
                  obtain ⟨bx', ox', hAx, hbx, ex⟩ := Fibre.cl_at (HCV.out.1.on HV.out) hzx
                  obtain ⟨by', oy', hAy, hby, ey⟩ := Fibre.cl_at (HCV.out.2.on HV.out) hzy
                  subst hAx
                  subst hAy
                  have d9 : decide (zy < zx) = false := decide_eq_false (by omega)
                  have k1 : (k : Int) < (n6 : Int) := by omega
                  have k2 : (0 : Int) ≤ (k : Int) := by omega
                  have hk1 : IntKind.i64.wrap ((k : Int) + 1) = ((k + 1 : Nat) : Int) := Rw.wrap_id (by have := K8.out; omega)
                  have HLK := Lib.hid hlk
                  clear hzx hzy hzz hbx hby
                  go_wp2_with fail
                  go_quiet (fail)
                  go_wp2_with fail
                  go_roundw
                  case rel => exact ⟨k + 1, HLK.out, by go_num, below_drewN HV.out _⟩
                  case measure => have := HLK.out; simp [RowKit.intOf]; omega
                · obtain rfl : n6 = k := by omega
                  go_wp2_with fail
                  go_roundw
                  case rel => exact ⟨i + 1, by omega, by have := HIR.out; omega, by go_num, bstep BV.out HV.out⟩
                  case measure => have := HIR.out; simp [RowKit.intOf]; omega
            · have d6 : ¬ (i : Int) < (n1 : Int) := by omega
              have d7 : decide ((i : Int) < (n1 : Int)) = false := decide_eq_false d6
              have d8 : ¬ i < n1 := by omega
              have BV := Lib.hid BQ.out
              have HCV := Lib.hid HCQ.out
              obtain ⟨wv, hwv⟩ : ∃ W, W = wq := ⟨_, rfl⟩
              rw [← hwv] at BV HCV ⊢
              clear hwv hge
              go_upto_region 30 with fail
              clear d6 d7 d8
              go_wp2_with fail
              go_loopw [17] (fun kv wr2 => ∃ k : Nat, k ≤ n6 ∧ kv = .int .i64 k ∧ Below wv.heap.size wv wr2) (fun kv _ => n6 - (RowKit.intOf kv).toNat)
              case atStart => exact ⟨0, Nat.zero_le _, rfl, Below.refl _ _⟩
              case round =>
                obtain ⟨k, hk, rfl, hbel⟩ := hrel
                have HV := Lib.hid hbel
                clear hbel
                rcases Nat.lt_or_ge k n6 with hlk | hgk
                · obtain ⟨zx, hzx⟩ := get_lt (L := vx) (k := k) (by have := HXL.out.1; omega)
                  obtain ⟨zy, hzy⟩ := get_lt (L := vy) (k := k) (by have := HXL.out.2; omega)
                  have hzz := HXY.out k zx zy hzx hzy
                  obtain ⟨bx', ox', hAx, hbx, ex⟩ := Fibre.cl_at (HCV.out.1.on HV.out) hzx
                  obtain ⟨by', oy', hAy, hby, ey⟩ := Fibre.cl_at (HCV.out.2.on HV.out) hzy
                  subst hAx
                  subst hAy
                  have d9 : decide (zy < zx) = false := decide_eq_false (by omega)
                  have k1 : (k : Int) < (n6 : Int) := by omega
                  have k2 : (0 : Int) ≤ (k : Int) := by omega
                  have hk1 : IntKind.i64.wrap ((k : Int) + 1) = ((k + 1 : Nat) : Int) := Rw.wrap_id (by have := K8.out; omega)
                  have HLK := Lib.hid hlk
                  clear hzx hzy hzz hbx hby
                  go_wp2_with fail
                  go_quiet (fail)
                  go_wp2_with fail
                  go_roundw
                  case rel => exact ⟨k + 1, HLK.out, by go_num, below_drewN HV.out _⟩
                  case measure => have := HLK.out; simp [RowKit.intOf]; omega
                · obtain rfl : n6 = k := by omega
                  go_wp2_with fail
                  go_roundw
                  case rel => exact ⟨i + 1, by omega, by have := HIR.out; omega, by go_num, bstep BV.out HV.out⟩
                  case measure => have := HIR.out; simp [RowKit.intOf]; omega
end Go.Proofs.Ytihklpkpcnahkaa.Pipe
/- Flushed, over the contracts. -/
namespace Go.Proofs.Ytihklpkpcnahkaa.Pipe
open Go.ChangeShapes Go.WideShapes Go.RowKit Go.Lib Go.Joins
open Go.Proofs.Ytihklpkpcnahkaa.Mem (Cl eI Own make_ints)
open Go.Proofs.Ytihklpkpcnahkaa.Share (zeros one_made lst_zero)
open Go.Proofs.Ytihklpkpcnahkaa.Rw (Off glt get_lt below_alloc bstep below_drewN below_drew drew_below)
set_option linter.unusedVariables false
set_option maxRecDepth 100000
set_option maxHeartbeats 6400000 in
theorem walk_PipeFlushed (KK : PiKit) (w : World) (hold : Int) (A : Option Addr) (c : Nat) (P : List (List Int)) (ha : Pls w A P) (hc : P.length ≤ c) (hm : P.length ≤ 9223372036854775807) (M : Option Addr) (n' c' : Nat) (zs : List Int) (hM : InInts .u16 w M n' c' zs) :
    Calls Try.prog 10 #[.agg #[.int .i64 hold, .slice A P.length c], .slice M n' c'] w fun e w' => e = .returned (.bool true) ∧ Below w.heap.size w w' := by
  have HA := Lib.hid ha
  have HM := Lib.hid hM
  have KQ := Lib.hid KK.awake
  obtain ⟨n, hn⟩ : ∃ n, P.length = n := ⟨_, rfl⟩
  rw [hn] at hm hc ⊢
  have HN := Lib.hid hn
  have HCC := Lib.hid hc
  have KG := Lib.hid fun (W : World) (h : Pls W A P) => law_great hold P A n c hn W h hm
  have K1 := Lib.hid fun (W : World) (h : Pls W A P) => KK.check hold P A n c hn W h hm
  obtain ⟨E, hE⟩ : ∃ x, ckP hold P = x := ⟨_, rfl⟩
  obtain ⟨g, hg⟩ : ∃ x, grtP P = x := ⟨_, rfl⟩
  rw [hE] at K1
  rw [hg] at KG
  have HE := Lib.hid hE
  clear hE hg ha hM hn hc hm
  go_enter Try.func10, Try.ntmps10
  go_upto_region 1 with fail
  obtain ⟨w0, hw0⟩ : ∃ W, w.alloc (.cells #[.int .i64 hold, .slice A n c] 24) = W := ⟨_, rfl⟩
  have C0 : Hid (Rw.Cel w0 w.heap.size [.int .i64 hold, .slice A n c]) := hw0 ▸ Rw.Cel.new w [_, _] _
  have HB0 : Hid (Below w.heap.size w w0) := hw0 ▸ below_alloc _ _
  rw [hw0]
  clear hw0
  obtain ⟨x0, x1⟩ := C0.out.two
  go_wp2_with fail
  refine (KG.out w0 (HA.out.on HB0.out)).mono ?_
  rintro e w1 ⟨rfl, hb⟩
  have HB := Lib.hid (bstep HB0.out hb)
  have C1 := Lib.hid (C0.out.on hb)
  clear hb x0 x1 C0 HB0
  obtain ⟨x0, x1⟩ := C1.out.two
  cases g with
  | true =>
    go_wp2_with fail
    refine (KQ.out _).mono ?_
    rintro e wq ⟨rfl, hb⟩
    have HF := Lib.hid (bstep HB.out hb)
    clear hb
    go_wp2_with fail
    go_ret
    exact ⟨rfl, HF.out⟩
  | false =>
  rcases Nat.lt_or_ge 30 n' with h1 | h1
  · have d1 : decide ((30 : Int) < (n' : Int)) = true := decide_eq_true (by omega)
    clear h1
    go_wp2_with fail
    refine (KQ.out _).mono ?_
    rintro e wq ⟨rfl, hb⟩
    have HF := Lib.hid (bstep HB.out hb)
    clear hb
    go_wp2_with fail
    go_ret
    exact ⟨rfl, HF.out⟩
  have d1 : decide ((30 : Int) < (n' : Int)) = false := decide_eq_false (by omega)
  have H30 := Lib.hid h1
  clear h1
  go_wp2_with fail
  refine (K1.out w1 (HA.out.on HB.out)).mono ?_
  rintro e w2 ⟨rfl, hb⟩
  replace HB := Lib.hid (bstep HB.out hb)
  have C2 := Lib.hid (C1.out.on hb)
  clear hb x0 x1 C1
  obtain ⟨x0, x1⟩ := C2.out.two
  by_cases hz : E = 0
  rotate_left
  · obtain ⟨z1, z2⟩ := nz hz
    clear hz
    go_wp2_with fail
    refine (KQ.out _).mono ?_
    rintro e wq ⟨rfl, hb⟩
    have HF := Lib.hid (bstep HB.out hb)
    clear hb
    go_wp2_with fail
    go_ret
    exact ⟨rfl, HF.out⟩
  subst hz
  have OK := Lib.hid (ckP_of HE.out)
  have d2 : ((n : Int) == 0) = false := beq_false_of_ne (by have := OK.out.n1; have := HN.out; omega)
  rcases Nat.lt_or_ge 216 n with h1 | h1
  · have d3 : decide ((216 : Int) < (n : Int)) = true := decide_eq_true (by omega)
    clear h1
    go_wp2_with fail
    refine (KQ.out _).mono ?_
    rintro e wq ⟨rfl, hb⟩
    have HF := Lib.hid (bstep HB.out hb)
    clear hb
    go_wp2_with fail
    go_ret
    exact ⟨rfl, HF.out⟩
  have d3 : decide ((216 : Int) < (n : Int)) = false := decide_eq_false (by omega)
  have H216 := Lib.hid h1
  clear h1
  obtain ⟨ki, hki⟩ : ∃ x, kin P = x := ⟨_, rfl⟩
  rw [hki] at OK
  obtain ⟨l0, hl0⟩ := get_lt (L := P) (k := 0) (by have := OK.out.n1; omega)
  obtain ⟨b, off, A1, n1, c1, hA, hb0, e0, hl1, hcl, hm1⟩ := pls_at (HA.out.on HB.out) hl0
  subst hA
  obtain rfl : n1 = ki := by
    have := (OK.out.all l0 (List.mem_of_getElem? hl0)).len
    omega
  rw [Nat.add_zero] at e0
  have HE0 := Lib.hid (And.intro hb0 e0)
  have i3 : (0 : Int) < (n : Int) := by have := HN.out; have := OK.out.n1; omega
  have i4 : 0 < n := by have := HN.out; have := OK.out.n1; omega
  have d4 : ((n1 : Int) == 0) = false := beq_false_of_ne (by have := OK.out.k1; omega)
  clear hl0 hcl hl1 hb0 hki
  go_upto_region 4 with fail
  clear x0 x1 e0
  obtain ⟨x0, x1⟩ := C2.out.two
  go_upto_region 5 with fail
  clear x0 x1
  have G3 := Lib.hid (Rw.Cel.new w2 [.int .i64 hold, .slice (some ⟨b, off, none⟩) n c] 24)
  have B3 : Hid (Below w2.heap.size w2 (w2.alloc (.cells #[.int .i64 hold, .slice (some ⟨b, off, none⟩) n c] 24))) := Lib.hid (below_alloc _ _)
  have S3 : Hid (w2.heap.size < (w2.alloc (.cells #[.int .i64 hold, .slice (some ⟨b, off, none⟩) n c] 24)).heap.size) := Lib.hid (by simp)
  obtain ⟨w3, hw3⟩ : ∃ W, w2.alloc (.cells #[.int .i64 hold, .slice (some ⟨b, off, none⟩) n c] 24) = W := ⟨_, rfl⟩
  obtain ⟨gq, hgq⟩ : ∃ x, w2.heap.size = x := ⟨_, rfl⟩
  rw [hw3] at G3 B3 S3 ⊢
  rw [hgq] at G3 S3 ⊢
  have GQ := Lib.hid hgq
  have P2 := Lib.hid (HA.out.on HB.out)
  have FP : Hid (∀ W, Off (fun x => x = gq) w3 W → Pls W (some ⟨b, off, none⟩) P) := Lib.hid fun W ho => P2.out.on (Below.trans B3.out (ho.below (by have := S3.out; have := GQ.out; omega) (fun x h => by have := GQ.out; omega)))
  have HF0 := Lib.hid (Flu.start OK.out)
  have hmk := fun W => make_ints n1 (by have := OK.out.k8; omega) W
  clear hw3 hgq
  go_wp2_with fail
  go_loopw [5, 7, 8, 9, 10, 11, 12] (fun lv iv _ _ _ _ _ wr => ∃ (k : Nat) (s : Int) (A5 : Option Addr) (n5 c5 : Nat) (Q : List (List Int)), k ≤ n' + 1 ∧ iv = .int .i64 k ∧ lv = .int .i64 s ∧ Rw.Cel wr gq [.int .i64 hold, .slice A5 n5 c5] ∧ Q.length = n5 ∧ (∀ W, Off (fun x => x = gq) wr W → Pls W A5 Q) ∧ Flu hold s Q n1 ∧ (n5 ≤ 216 + k ∧ n5 ≤ c5) ∧ (k = n' + 1 → s = 0) ∧ Below w2.heap.size w2 wr) (fun _ iv _ _ _ _ _ _ => n' + 1 - (RowKit.intOf iv).toNat)
  case atStart => exact ⟨0, hold, _, n, c, P, Nat.zero_le _, rfl, rfl, G3.out, HN.out, FP.out, HF0.out, ⟨by have := H216.out; omega, HCC.out⟩, fun h => by omega, B3.out⟩
  case round =>
    obtain ⟨k, s, A5, n5, c5, Q, hk, rfl, rfl, hcel, hlen, hpl, hflu, h256, hend, hbel⟩ := hrel
    have HG := Lib.hid hcel
    have HL := Lib.hid hlen
    have HP := Lib.hid hpl
    have HFl := Lib.hid hflu
    have HD := Lib.hid (And.intro h256 hend)
    have HW := Lib.hid hbel
    clear hcel hlen hpl hflu h256 hend hbel
    have HBr := Lib.hid (bstep HB.out HW.out)
    obtain ⟨x0, x1⟩ := (C2.out.on HW.out).two
    obtain ⟨y0, y1⟩ := HG.out.two
    rcases Nat.lt_or_ge n' k with hgt | hle
    · obtain rfl : k = n' + 1 := by omega
      obtain rfl : s = 0 := HD.out.2 rfl
      have d5 : ¬ ((n' + 1 : Nat) : Int) ≤ (n' : Int) := by omega
      have d6 : decide (((n' + 1 : Nat) : Int) ≤ (n' : Int)) = false := decide_eq_false d5
      have KC := Lib.hid (KK.content hold Q A5 n5 c5 HL.out wr (HP.out wr (Off.refl _ _)) (by have := HD.out.1; have := H30.out; omega))
      obtain ⟨q1, q2, q3⟩ := HFl.out.end_
      obtain ⟨L, hL⟩ : ∃ L, coL hold Q = L := ⟨_, rfl⟩
      rw [q1, hL] at KC
      rw [hL] at q2 q3
      have HQ3 := Lib.hid (And.intro q2 q3)
      have HX := Lib.hid fun (W : World) (h : Below w2.heap.size w2 W) => And.intro (C2.out.on h).two (h.cell (p := ⟨b, off, none⟩) HE0.out.1 |>.trans HE0.out.2)
      clear q1 q2 q3 hL x0 x1
      go_wp2_with fail
      refine KC.out.mono ?_
      rintro e w5 ⟨A6, n6, c6, rfl, hl6, ho6, hb⟩
      have HF5 := Lib.hid (bstep HBr.out hb)
      have HW5 : Hid (Below w2.heap.size w2 w5) := Lib.hid (bstep HW.out hb)
      obtain ⟨-, -, hc6, -⟩ := own_cl ho6
      obtain ⟨b6, o6, hA6, hb6, e6⟩ := Fibre.cl_at hc6 HQ3.out.2
      subst hA6
      obtain rfl : n6 = n1 := by rw [← hl6]; exact HQ3.out.1
      obtain ⟨⟨x0, x1⟩, x2⟩ := HX.out _ HW5.out
      have j3 : (0 : Int) < (n6 : Int) := by have := OK.out.k1; omega
      have j4 : 0 < n6 := by have := OK.out.k1; omega
      rw [Nat.add_zero] at e6
      have HY := Lib.hid fun (W : World) (h : Below w5.heap.size w5 W) => And.intro ((C2.out.on HW5.out).on h).two.1 ((h.cell (p := ⟨b6, o6, none⟩) hb6).trans e6)
      clear hb hl6 ho6 hc6 hb6 y0 y1
      go_wp2_with fail
      clear x0 x1 x2 e6
      have HBL := Lib.hid (Below.refl w5.heap.size w5)
      go_region_held3 (fun W => W.cell? ⟨w.heap.size, 0, none⟩ = some (.int .i64 hold) ∧ W.cell? ⟨b6, o6, none⟩ = some (.int .i64 hold))
        (first | exact HY.out _ HBL.out | exact HY.out _ (bstep HBL.out (drew_below _)))
        ((go_at_call 12; (with_reducible refine (KQ.out _).mono ?_); rintro e wa ⟨rfl, hba⟩; (replace HBL := Lib.hid (bstep (bstep HBL.out (drew_below _)) hba)); clear hba))
      all_goals
        go_wp2_with fail
        go_ret
        exact ⟨rfl, bstep HF5.out HBL.out⟩
    · have i1 : (k : Int) ≤ (n' : Int) := by omega
      go_upto_if 61 with fail
      go_cut [8, 61] from 61 to 68 (fun v _ wz => ∃ nn : Int, v = .int .i64 nn ∧ (0 ≤ nn ∧ nn ≤ s ∧ (k = n' → nn = s)) ∧ wr = wz)
      case first =>
        rcases Nat.lt_or_ge k n' with hlt | hge
        · have d7 : (k : Int) < (n' : Int) := by omega
          obtain ⟨q1, q2, q3, q4, q5⟩ := HM.out
          obtain ⟨z, hz⟩ := get_lt (L := zs) (k := k) (by omega)
          obtain ⟨b7, o7, hA7, hb7, e7⟩ := q5 k z hz
          have hzw := q4 z (List.mem_of_getElem? hz)
          have e8 : wr.cell? ⟨b7, o7 + k, none⟩ = some (.int .u16 z) := (HBr.out.cell (p := ⟨b7, o7 + k, none⟩) hb7).trans e7
          have j5 : (0 : Int) ≤ (k : Int) := by omega
          have hz2 : 0 ≤ z ∧ z ≤ 65535 := by simpa [Lit.wf, IntKind.min, IntKind.max, IntKind.signed, IntKind.bits] using hzw
          have wz : IntKind.i64.wrap z = z := Rw.wrap_id (by omega)
          have HZZ : Hid (0 ≤ min s z ∧ min s z ≤ s ∧ k ≠ n') := Lib.hid ⟨by have := HFl.out.l0; omega, by omega, by omega⟩
          subst hA7
          clear q1 q2 q3 q4 q5 hz hb7 e7
          go_wp2_with fail
          go_meet
          case rel => exact ⟨_, rfl, ⟨HZZ.out.1, HZZ.out.2.1, fun h => absurd h HZZ.out.2.2⟩, rfl⟩
        · have d7 : ¬ (k : Int) < (n' : Int) := by omega
          have H0 := Lib.hid HFl.out.l0
          go_wp2_with fail
          go_meet
          case rel => exact ⟨s, rfl, ⟨H0.out, Int.le_refl _, fun _ => rfl⟩, rfl⟩
      case rest =>
        obtain ⟨nn, rfl, hnn, hw⟩ := hcut
        obtain rfl := hw
        have HNN := Lib.hid hnn
        have e0 := (HW.out.cell (p := ⟨b, off, none⟩) HE0.out.1).trans HE0.out.2
        have O6 := Lib.hid (one_made wr n1 (by have := OK.out.k8; omega))
        rw [← lst_zero] at O6
        have B6 : Hid (Below wr.heap.size wr (wr.alloc (zeros n1))) := Lib.hid (below_alloc _ _)
        obtain ⟨w6, hw6⟩ : ∃ W, wr.alloc (zeros n1) = W := ⟨_, rfl⟩
        obtain ⟨gi, hgi⟩ : ∃ x, wr.heap.size = x := ⟨_, rfl⟩
        have GI := Lib.hid hgi
        rw [hw6] at O6 B6
        rw [hgi] at O6
        have j4 : 0 < n1 := by have := OK.out.k1; omega
        have j3 : (0 : Int) < (n1 : Int) := by omega
        clear hnn
        go_upto_region 12 with fail
        clear hw6 hgi
        have ci : w6.cell? ⟨gi, 0, none⟩ = some (.int .i64 0) := O6.out.cell (by rw [List.getElem?_replicate, if_pos j4])
        have fi := O6.out.warm (by rw [List.length_replicate]) 0
        have O7 : Hid (Own eI 3 gi (w6.setCell ⟨gi, 0, none⟩ (.int .i64 nn)) (.slice (some ⟨gi, 0, none⟩) n1 n1) (oneK n1 nn)) := Lib.hid (O6.out.set (by rw [List.length_replicate]) 0 nn)
        have B7 : Hid (Below wr.heap.size wr (w6.setCell ⟨gi, 0, none⟩ (.int .i64 nn))) := Lib.hid (Mem.below_set B6.out (p := ⟨gi, 0, none⟩) (by have := GI.out; show wr.heap.size ≤ gi; omega) _)
        obtain ⟨w7, hw7⟩ : ∃ W, w6.setCell ⟨gi, 0, none⟩ (.int .i64 nn) = W := ⟨_, rfl⟩
        rw [hw7] at O7 B7
        have hstep := HFl.out.step HNN.out.1 HNN.out.2.1 (by have := HL.out; have := HD.out.1; have := H30.out; omega)
        obtain ⟨e1, hfl2, hlen2⟩ := hstep
        obtain ⟨e2, e3, e4⟩ := pu_ok e1
        have HP7 := Lib.hid (KK.push hold Q (oneK n1 nn) A5 (some ⟨gi, 0, none⟩) n5 c5 n1 n1 HL.out HD.out.1.2 oneK_len w7 ((HP.out wr (Off.refl _ _)).on B7.out) (own_cl O7.out).2.2.1 (by have := HD.out.1; have := H30.out; omega) (own_cl O7.out).2.2.2)
        rw [e1, e2, e3] at HP7
        obtain ⟨T, hT⟩ : ∃ T, newP Q (oneK n1 nn) = T := ⟨_, rfl⟩
        rw [hT] at HP7 hfl2 hlen2
        have HT := Lib.hid (And.intro hfl2 hlen2)
        obtain ⟨UO, hUO⟩ : ∃ X, puO hold Q (oneK n1 nn) = X := ⟨_, rfl⟩
        rw [hUO] at HP7
        have hs0 := hfl2.l0
        have hs1 : hold ≤ 1099511627776 := hfl2.ok.h2
        clear e1 e2 e3 e4 hfl2 hlen2 hT hUO
        go_upto_region 13 with fail
        clear hw7 x0 x1 e0 y0 y1
        have G7 := Lib.hid (HG.out.on B7.out)
        obtain ⟨y0, y1⟩ := G7.out.two
        go_wp2_with fail
        refine HP7.out.mono ?_
        rintro e w8 ⟨A8, n8, c8, A9, n9, c9, rfl, hl8, hc8, -, hp8, -, hb⟩
        have B8 := Lib.hid (bstep B7.out hb)
        have HL8 := Lib.hid hl8
        have HC8 := Lib.hid hc8
        have HP8 := Lib.hid hp8
        have G8 := Lib.hid (G7.out.on hb)
        clear hl8 hc8 hp8 hb y0 y1
        go_upto_region 14 with fail
        have N9 := Lib.hid (Rw.Cel.new w8 [.int .i64 hold, .slice A8 n8 c8] 24)
        have B9 : Hid (Below w8.heap.size w8 (w8.alloc (.cells #[.int .i64 hold, .slice A8 n8 c8] 24))) := Lib.hid (below_alloc _ _)
        obtain ⟨w9, hw9⟩ : ∃ W, w8.alloc (.cells #[.int .i64 hold, .slice A8 n8 c8] 24) = W := ⟨_, rfl⟩
        obtain ⟨gx, hgx⟩ : ∃ x, w8.heap.size = x := ⟨_, rfl⟩
        rw [hw9] at N9 B9 ⊢
        rw [hgx] at N9 ⊢
        clear hw9 hgx
        have G9 := Lib.hid (G8.out.on B9.out)
        have HGW : Hid (gq < w7.heap.size) := Lib.hid (Nat.lt_of_lt_of_le HG.out.lt B7.out.size)
        have FG : Hid (Off (fun x => x = gq) w9 ((w9.setCell ⟨gq, 0, none⟩ (.int .i64 hold)).setCell ⟨gq, 1, none⟩ (.slice A8 n8 c8))) := Lib.hid (Rw.off_put2 w9 gq _ _)
        have P9 := Lib.hid (HP8.out.on B9.out)
        have P10 := Lib.hid (P9.out.off FG.out fun x h => by have := HGW.out; omega)
        have FP10 : Hid (∀ W, Off (fun x => x = gq) ((w9.setCell ⟨gq, 0, none⟩ (.int .i64 hold)).setCell ⟨gq, 1, none⟩ (.slice A8 n8 c8)) W → Pls W A8 T) := Lib.hid fun W ho => (P10.out.off ho fun x h => by have := HGW.out; omega).pls
        have G10 : Hid (Rw.Cel ((w9.setCell ⟨gq, 0, none⟩ (.int .i64 hold)).setCell ⟨gq, 1, none⟩ (.slice A8 n8 c8)) gq [.int .i64 hold, .slice A8 n8 c8]) := Lib.hid (G9.out.put2 _ _)
        have W10 : Hid (Below w2.heap.size w2 ((w9.setCell ⟨gq, 0, none⟩ (.int .i64 hold)).setCell ⟨gq, 1, none⟩ (.slice A8 n8 c8))) := Lib.hid (Rw.below_put2 (bstep (bstep HW.out B8.out) B9.out) (by have := GQ.out; omega) _ _)
        obtain ⟨z0, z1⟩ := N9.out.two
        obtain ⟨y0, y1⟩ := G9.out.two
        obtain ⟨v0, v1⟩ := G9.out.warm2
        obtain ⟨s2, hs2⟩ : ∃ x, s - nn = x := ⟨_, rfl⟩
        rw [hs2] at hs0 HT
        have hsh : s ≤ hold := by
          obtain ⟨Y, X, r1, r2, -⟩ := HFl.out.parts
          have r3 := HFl.out.ok.sum
          have r4 := HFl.out.ok.all
          rw [r1] at r3 r4
          rw [tot_append] at r3
          have r5 := tot_nonneg (fun l hl => r4 l (List.mem_append_right _ hl) : Pgs n1 X)
          omega
        have ws2 : IntKind.i64.wrap s2 = s2 := Rw.wrap_id (by have := HNN.out; omega)
        have hk1 : IntKind.i64.wrap ((k : Int) + 1) = ((k + 1 : Nat) : Int) := Rw.wrap_id (by have := H30.out; omega)
        have HEND : Hid (k + 1 = n' + 1 → s2 = 0) := Lib.hid fun h => by have h1 := HNN.out.2.2 (by omega); omega
        have HK : Hid (k + 1 ≤ n' + 1 ∧ n8 ≤ 216 + (k + 1)) := Lib.hid (by have h1 := HT.out.2; have h2 := HL8.out; have h3 := HL.out; have h4 := HD.out.1; omega)
        clear hs0 hs1 hsh j3 j4 ci fi
        go_wp2_with fail
        go_roundw
        case rel => exact ⟨k + 1, s2, A8, n8, c8, T, HK.out.1, by go_num, rfl, G10.out, HL8.out, FP10.out, HT.out.1, ⟨HK.out.2, HC8.out⟩, HEND.out, W10.out⟩
        case measure => have := HK.out.1; simp [RowKit.intOf]; omega
end Go.Proofs.Ytihklpkpcnahkaa.Pipe
/- The eight laws, in the frames' words. -/
namespace Go.Proofs.Ytihklpkpcnahkaa.Pipe.Law
open Go.ChangeShapes Go.WideShapes Go.RowKit Go.Lib Go.Joins
open Go.Proofs.Ytihklpkpcnahkaa.Mem (Cl eI Own)
set_option linter.unusedVariables false
theorem in_cl {w : World} {A : Option Addr} {n c : Nat} {L : List Int} (h : InInts .i64 w A n c L) : Cl eI w A L ∧ L.length = n ∧ n ≤ c ∧ n ≤ 9223372036854775807 :=
  ⟨h.2.2.2.2, h.1.symm, h.2.1, by have h1 := h.2.1; have h2 := h.2.2.1; unfold maxLen at h2; omega⟩
theorem walk_PipeChecks (w : World) (hold : Int) (A : Option Addr) (c : Nat) (P : List (List Int)) (ha : Pls w A P) (hc : P.length ≤ c) (hm : P.length ≤ 9223372036854775807) :
    Calls Try.prog 3 #[.agg #[.int .i64 hold, .slice A P.length c]] w fun e w' => e = .returned (.bool true) ∧ Below w.heap.size w w' :=
  Pipe.walk_PipeChecks kit w hold A c P ha hc hm
theorem walk_PipeNews (w : World) (M : Option Addr) (n' c' : Nat) (m : List Int) (hM : InInts .i64 w M n' c' m) :
    Calls Try.prog 4 #[.slice M n' c'] w fun e w' => e = .returned (.bool true) ∧ Below w.heap.size w w' :=
  Pipe.walk_PipeNews kit w M n' c' m (in_cl hM).1 (in_cl hM).2.1 (in_cl hM).2.2.2
theorem walk_PipePushes (w : World) (hold : Int) (A : Option Addr) (c : Nat) (P : List (List Int)) (ha : Pls w A P) (hc : P.length ≤ c) (hm : P.length ≤ 9223372036854775807) (M : Option Addr) (n' c' : Nat) (m : List Int) (hM : InInts .i64 w M n' c' m) :
    Calls Try.prog 5 #[.agg #[.int .i64 hold, .slice A P.length c], .slice M n' c'] w fun e w' => e = .returned (.bool true) ∧ Below w.heap.size w w' :=
  Pipe.walk_PipePushes kit w hold A c P ha hc hm M n' c' m (in_cl hM).1 (in_cl hM).2.1 (in_cl hM).2.2.2
theorem walk_PipeContents (w : World) (hold : Int) (A : Option Addr) (c : Nat) (P : List (List Int)) (ha : Pls w A P) (hc : P.length ≤ c) (hm : P.length ≤ 9223372036854775807) (k : Int) :
    Calls Try.prog 6 #[.agg #[.int .i64 hold, .slice A P.length c], .int .i64 k] w fun e w' => e = .returned (.bool true) ∧ Below w.heap.size w w' :=
  Pipe.walk_PipeContents kit w hold A c P ha hc hm k
theorem walk_PipeFifo (w : World) (hold : Int) (A : Option Addr) (c : Nat) (P : List (List Int)) (ha : Pls w A P) (hc : P.length ≤ c) (hm : P.length ≤ 9223372036854775807) (M : Option Addr) (n' c' : Nat) (m : List Int) (hM : InInts .i64 w M n' c' m) :
    Calls Try.prog 7 #[.agg #[.int .i64 hold, .slice A P.length c], .slice M n' c'] w fun e w' => e = .returned (.bool true) ∧ Below w.heap.size w w' :=
  Pipe.walk_PipeFifo kit w hold A c P ha hc hm M n' c' m (in_cl hM).1 (in_cl hM).2.1 (in_cl hM).2.2.2
theorem walk_PipeKinds (w : World) (hold : Int) (A : Option Addr) (c : Nat) (P : List (List Int)) (ha : Pls w A P) (hc : P.length ≤ c) (hm : P.length ≤ 9223372036854775807) (M : Option Addr) (n' c' : Nat) (m : List Int) (hM : InInts .i64 w M n' c' m)
    (N : Option Addr) (k' d' : Nat) (u : List Int) (hU : InInts .i64 w N k' d' u) :
    Calls Try.prog 8 #[.agg #[.int .i64 hold, .slice A P.length c], .slice M n' c', .slice N k' d'] w fun e w' => e = .returned (.bool true) ∧ Below w.heap.size w w' :=
  Pipe.walk_PipeKinds kit w hold A c P ha hc hm M n' c' m (in_cl hM).1 (in_cl hM).2.1 (in_cl hM).2.2.1 (in_cl hM).2.2.2 N k' d' u (in_cl hU).1 (in_cl hU).2.1 (in_cl hU).2.2.2
theorem walk_PipeAges (w : World) (hold : Int) (A : Option Addr) (c : Nat) (P : List (List Int)) (ha : Pls w A P) (hc : P.length ≤ c) (hm : P.length ≤ 9223372036854775807) (z : Int) (hz : (Lit.int .u8 z).wf = true) :
    Calls Try.prog 9 #[.agg #[.int .i64 hold, .slice A P.length c], .int .u8 z] w fun e w' => e = .returned (.bool true) ∧ Below w.heap.size w w' :=
  Pipe.walk_PipeAges kit w hold A c P ha hc hm z hz
theorem walk_PipeFlushed (w : World) (hold : Int) (A : Option Addr) (c : Nat) (P : List (List Int)) (ha : Pls w A P) (hc : P.length ≤ c) (hm : P.length ≤ 9223372036854775807) (M : Option Addr) (n' c' : Nat) (zs : List Int) (hM : InInts .u16 w M n' c' zs) :
    Calls Try.prog 10 #[.agg #[.int .i64 hold, .slice A P.length c], .slice M n' c'] w fun e w' => e = .returned (.bool true) ∧ Below w.heap.size w w' :=
  Pipe.walk_PipeFlushed kit w hold A c P ha hc hm M n' c' zs hM
end Go.Proofs.Ytihklpkpcnahkaa.Pipe.Law
