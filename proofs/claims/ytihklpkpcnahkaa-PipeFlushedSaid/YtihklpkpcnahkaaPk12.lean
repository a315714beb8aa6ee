/- Several texts in one: PipeR, NatA, NatB, NatC, NatD, NatE, NatF, NatG. -/
import Derived.Test.YtihklpkpcnahkaaPk11
import Derived.Test.YtihklpkpcnahkaaRows
import Derived.WalkKit
import Derived.Lib.Hide
import Derived.WalkLawsBesides
import Derived.WalkSpells
import Derived.Outline
import Derived.Laws.OwnMore
import Derived.OwnWalk
import Derived.Test.YtihklpkpcnahkaaPk2
import Derived.BigQuiet
import Derived.Deep.RegionWith
import Derived.Deep.QuietTactic
import Derived.Laws.CopyOwn
/- The laws that compare with the reference: Checks, Contents. -/
namespace Go.Proofs.Ytihklpkpcnahkaa.Pipe
open Go.ChangeShapes Go.WideShapes Go.RowKit Go.Lib
open Go.Proofs.Ytihklpkpcnahkaa.Mem (Cl eI Own)
open Go.Proofs.Ytihklpkpcnahkaa.Rw (glt get_lt below_alloc bstep below_drewN below_drew drew_below)
set_option linter.unusedVariables false
set_option maxRecDepth 100000

set_option maxHeartbeats 3200000 in
theorem walk_PipeChecks (KK : PiKit) (w : World) (hold : Int) (A : Option Addr) (c : Nat) (P : List (List Int)) (ha : Pls w A P) (hc : P.length ≤ c) (hm : P.length ≤ 9223372036854775807) :
    Calls Try.prog 3 #[.agg #[.int .i64 hold, .slice A P.length c]] w fun e w' => e = .returned (.bool true) ∧ Below w.heap.size w w' := by
  have HA := Lib.hid ha
  have KQ := Lib.hid KK.awake
  obtain ⟨n, hn⟩ : ∃ n, P.length = n := ⟨_, rfl⟩
  rw [hn] at hm hc ⊢
  have KG := Lib.hid fun (W : World) (h : Pls W A P) => law_great hold P A n c hn W h hm
  have K1 := Lib.hid fun (W : World) (h : Pls W A P) => KK.check hold P A n c hn W h hm
  have K2 := Lib.hid fun (W : World) (h : Pls W A P) => pr_Check hold P A n c hn W h hm
  obtain ⟨E, hE⟩ : ∃ x, ckP hold P = x := ⟨_, rfl⟩
  obtain ⟨g, hg⟩ : ∃ x, grtP P = x := ⟨_, rfl⟩
  rw [hE] at K1 K2
  rw [hg] at KG
  clear hE hg ha hn hc hm
  go_enter Try.func3, Try.ntmps3
  go_upto_region 1 with fail
  obtain ⟨w0, hw0⟩ : ∃ W, w.alloc (.cells #[.int .i64 hold, .slice A n c] 24) = W := ⟨_, rfl⟩
  have C0 : Hid (Rw.Cel w0 w.heap.size [.int .i64 hold, .slice A n c]) := hw0 ▸ Rw.Cel.new w [_, _] _
  have HB0 : Hid (Below w.heap.size w w0) := hw0 ▸ below_alloc _ _
  rw [hw0]
  clear hw0
  obtain ⟨x0, x1⟩ := C0.out.two
  go_wp2_with fail
  refine (KG.out w0 (HA.out.on HB0.out)).mono ?_
  rintro e w1 ⟨rfl, hb⟩
  have HB := Lib.hid (bstep HB0.out hb)
  have C1 := Lib.hid (C0.out.on hb)
  clear hb x0 x1 C0 HB0
  cases g with
  | true =>
    go_wp2_with fail
    refine (KQ.out _).mono ?_
    rintro e wq ⟨rfl, hb⟩
    have HF := Lib.hid (bstep HB.out hb)
    clear hb
    go_wp2_with fail
    go_ret
    exact ⟨rfl, HF.out⟩
  | false =>
    have HX := Lib.hid fun (W : World) (h : Below w1.heap.size w1 W) => (C1.out.on h).two
    have K7 := Lib.hid fun (W : World) (h : Below w1.heap.size w1 W) => K1.out W (HA.out.on (bstep HB.out h))
    have K8 := Lib.hid fun (W : World) (h : Below w1.heap.size w1 W) => K2.out W (HA.out.on (bstep HB.out h))
    obtain ⟨x0, x1⟩ := C1.out.two
    go_wp2_with fail
    clear x0 x1
    have HBL := Lib.hid (Below.refl w1.heap.size w1)
    go_region_held3 (fun W => W.cell? ⟨w.heap.size, 0, none⟩ = some (.int .i64 hold) ∧ W.cell? ⟨w.heap.size, 1, none⟩ = some (.slice A n c))
      (first | exact HX.out _ HBL.out | exact HX.out _ (bstep HBL.out (drew_below _)))
      ((first
        | (go_at_call 13; (with_reducible refine (K7.out _ (bstep HBL.out (drew_below _))).mono ?_); rintro e wa ⟨rfl, hba⟩; (replace HBL := Lib.hid (bstep (bstep HBL.out (drew_below _)) hba)); clear hba)
        | (go_at_call 13; (with_reducible refine (K7.out _ HBL.out).mono ?_); rintro e wa ⟨rfl, hba⟩; (replace HBL := Lib.hid (bstep HBL.out hba)); clear hba)
        | (go_at_call 14; (with_reducible refine (K8.out _ (bstep HBL.out (drew_below _))).mono ?_); rintro e wa ⟨rfl, hba⟩; (replace HBL := Lib.hid (bstep (bstep HBL.out (drew_below _)) hba)); clear hba)
        | (go_at_call 14; (with_reducible refine (K8.out _ HBL.out).mono ?_); rintro e wa ⟨rfl, hba⟩; (replace HBL := Lib.hid (bstep HBL.out hba)); clear hba)
        | (go_at_call 12; (with_reducible refine (KQ.out _).mono ?_); rintro e wa ⟨rfl, hba⟩; (replace HBL := Lib.hid (bstep HBL.out hba)); clear hba)))
    all_goals
      go_wp2_with fail
      go_ret
      exact ⟨rfl, bstep HB.out HBL.out⟩
theorem list_eq {L : List Int} {A B : Option Addr} {n m c d : Nat} (hn : L.length = n) (hm : L.length = m) {w : World} (ha : Cl eI w A L) (hb : Cl eI w B L) (h1 : n ≤ 9223372036854775807) :
    Calls Try.prog 20 #[.slice A n c, .slice B m d] w fun e w' => e = .returned (.bool true) ∧ Below w.heap.size w w' := by
  have h := Fibre.rr_Same L L A B c d n m hn.symm hm.symm w ha hb h1 (by omega)
  rw [decide_eq_true (rfl : L = L)] at h
  exact h
theorem pipe_eq {x : Int} {P : List (List Int)} {A B : Option Addr} {n m c d : Nat} (hn : P.length = n) (hm : P.length = m) {w : World} (ha : Pls w A P) (hb : Pls w B P) (h1 : n ≤ 9223372036854775807) :
    Calls Try.prog 17 #[.agg #[.int .i64 x, .slice A n c], .agg #[.int .i64 x, .slice B m d]] w fun e w' => e = .returned (.bool true) ∧ Below w.heap.size w w' := by
  have h := pr_Same x x P P A B n m c d hn hm w ha hb h1 (by omega)
  rw [decide_eq_true (And.intro (rfl : x = x) (rfl : P = P))] at h
  exact h
set_option maxHeartbeats 3200000 in
theorem walk_PipeContents (KK : PiKit) (w : World) (hold : Int) (A : Option Addr) (c : Nat) (P : List (List Int)) (ha : Pls w A P) (hc : P.length ≤ c) (hm : P.length ≤ 9223372036854775807) (k : Int) :
    Calls Try.prog 6 #[.agg #[.int .i64 hold, .slice A P.length c], .int .i64 k] w fun e w' => e = .returned (.bool true) ∧ Below w.heap.size w w' := by
  have HA := Lib.hid ha
  have KQ := Lib.hid KK.awake
  obtain ⟨n, hn⟩ : ∃ n, P.length = n := ⟨_, rfl⟩
  rw [hn] at hm hc ⊢
  have KG := Lib.hid fun (W : World) (h : Pls W A P) => law_great hold P A n c hn W h hm
  have K1 := Lib.hid fun (W : World) (h : Pls W A P) => KK.content hold P A n c hn W h hm
  have K2 := Lib.hid fun (W : World) (h : Pls W A P) => pr_Content hold P A n c hn W h hm
  have K3 := Lib.hid fun (W : World) (h : Pls W A P) => KK.age hold k P A n c hn hc W h hm
  have K4 := Lib.hid fun (W : World) (h : Pls W A P) => pr_Age hold k P A n c hn hc W h hm
  obtain ⟨E, hE⟩ : ∃ x, ckP hold P = x := ⟨_, rfl⟩
  obtain ⟨L, hL⟩ : ∃ x, coL hold P = x := ⟨_, rfl⟩
  obtain ⟨F, hF⟩ : ∃ x, agE hold P k = x := ⟨_, rfl⟩
  obtain ⟨V, hV⟩ : ∃ x, agV hold P k = x := ⟨_, rfl⟩
  obtain ⟨g, hg⟩ : ∃ x, grtP P = x := ⟨_, rfl⟩
  rw [hE, hL] at K1 K2
  rw [hF, hV] at K3 K4
  rw [hg] at KG
  clear hE hL hF hV hg ha hn hc hm
  go_enter Try.func6, Try.ntmps6
  go_upto_region 1 with fail
  obtain ⟨w0, hw0⟩ : ∃ W, w.alloc (.cells #[.int .i64 hold, .slice A n c] 24) = W := ⟨_, rfl⟩
  have C0 : Hid (Rw.Cel w0 w.heap.size [.int .i64 hold, .slice A n c]) := hw0 ▸ Rw.Cel.new w [_, _] _
  have HB0 : Hid (Below w.heap.size w w0) := hw0 ▸ below_alloc _ _
  rw [hw0]
  clear hw0
  obtain ⟨x0, x1⟩ := C0.out.two
  go_wp2_with fail
  refine (KG.out w0 (HA.out.on HB0.out)).mono ?_
  rintro e w1 ⟨rfl, hb⟩
  have HB := Lib.hid (bstep HB0.out hb)
  have C1 := Lib.hid (C0.out.on hb)
  clear hb x0 x1 C0 HB0
  cases g with
  | true =>
    go_wp2_with fail
    refine (KQ.out _).mono ?_
    rintro e wq ⟨rfl, hb⟩
    have HF := Lib.hid (bstep HB.out hb)
    clear hb
    go_wp2_with fail
    go_ret
    exact ⟨rfl, HF.out⟩
  | false =>
    obtain ⟨x0, x1⟩ := C1.out.two
    go_wp2_with fail
    refine (K1.out w1 (HA.out.on HB.out)).mono ?_
    rintro e w2 ⟨A2, n2, c2, rfl, hl2, ho2, hb⟩
    have B2 := Lib.hid (bstep HB.out hb)
    have C2 := Lib.hid (C1.out.on hb)
    have X2 := Lib.hid (own_cl ho2)
    have HL2 := Lib.hid hl2
    clear hb x0 x1 ho2 hl2
    obtain ⟨x0, x1⟩ := C2.out.two
    go_wp2_with fail
    refine (K2.out w2 (HA.out.on B2.out)).mono ?_
    rintro e w3 ⟨A3, n3, c3, rfl, hl3, ho3, hb⟩
    have B3 := Lib.hid (bstep B2.out hb)
    have C3 := Lib.hid (C2.out.on hb)
    have Y2 := Lib.hid (X2.out.2.2.1.on hb)
    have X3 := Lib.hid (own_cl ho3)
    have HL3 := Lib.hid hl3
    clear hb x0 x1 ho3 hl3
    obtain ⟨x0, x1⟩ := C3.out.two
    go_wp2_with fail
    refine (K3.out w3 (HA.out.on B3.out)).mono ?_
    rintro e w4 ⟨rfl, hb⟩
    have B4 := Lib.hid (bstep B3.out hb)
    have C4 := Lib.hid (C3.out.on hb)
    have Y4 := Lib.hid (Y2.out.on hb)
    have Z4 := Lib.hid (X3.out.2.2.1.on hb)
    clear hb x0 x1
    obtain ⟨x0, x1⟩ := C4.out.two
    go_wp2_with fail
    refine (K4.out w4 (HA.out.on B4.out)).mono ?_
    rintro e w5 ⟨rfl, hb⟩
    have B5 := Lib.hid (bstep B4.out hb)
    have Y5 := Lib.hid (Y4.out.on hb)
    have Z5 := Lib.hid (Z4.out.on hb)
    clear hb x0 x1
    go_wp2_with fail
    refine (list_eq HL2.out HL3.out Y5.out Z5.out X2.out.2.2.2).mono ?_
    rintro e w6 ⟨rfl, hb⟩
    have B6 := Lib.hid (bstep B5.out hb)
    clear hb
    go_wp2_with fail
    refine (KQ.out _).mono ?_
    rintro e wq ⟨rfl, hb⟩
    have HF := Lib.hid (bstep B6.out hb)
    clear hb
    go_wp2_with fail
    go_ret
    exact ⟨rfl, HF.out⟩
theorem nwP_len (m : List Int) : (nwP m).length ≤ 1 := by
  unfold nwP
  split
  · simp
  · simp
theorem puP_len (hold : Int) (P : List (List Int)) (m : List Int) : (puP hold P m).length ≤ 256 := by
  unfold puP
  by_cases h : puE hold P m = 0
  · rw [if_pos h]
    by_cases h1 : ckP hold P = 0
    · by_cases h2 : Fibre.parE m (kin P : Int) = 0
      · by_cases h3 : hold < Vec.sumZ m
        · rw [puE_big h1 h2 h3] at h; cases h
        · rw [puE_end h1 h2 h3] at h
          by_cases h4 : 256 < (newP P m).length
          · rw [if_pos h4] at h; cases h
          · omega
      · rw [puE_par h1 h2] at h; exact absurd h h2
    · rw [puE_ck h1] at h; exact absurd h h1
  · rw [if_neg h]; simp
set_option maxHeartbeats 3200000 in
theorem walk_PipeNews (KK : PiKit) (w : World) (A : Option Addr) (n c : Nat) (m : List Int) (ha : Cl eI w A m) (hn : m.length = n) (hm : n ≤ 9223372036854775807) :
    Calls Try.prog 4 #[.slice A n c] w fun e w' => e = .returned (.bool true) ∧ Below w.heap.size w w' := by
  have HA := Lib.hid ha
  have KQ := Lib.hid KK.awake
  have K1 := Lib.hid fun (W : World) (h : Cl eI W A m) => KK.new m A n c hn W h hm
  have K2 := Lib.hid fun (W : World) (h : Cl eI W A m) => pr_New m A n c hn W h hm
  have HLL := Lib.hid (nwP_len m)
  obtain ⟨E, hE⟩ : ∃ x, nwE m = x := ⟨_, rfl⟩
  obtain ⟨H, hH⟩ : ∃ x, nwH m = x := ⟨_, rfl⟩
  obtain ⟨Q, hQ⟩ : ∃ x, nwP m = x := ⟨_, rfl⟩
  rw [hE, hH, hQ] at K1 K2
  rw [hQ] at HLL
  clear hE hH hQ ha hn hm
  have HB := Lib.hid (Below.refl w.heap.size w)
  go_enter Try.func4, Try.ntmps4
  by_cases hl : 20 < n
  · have d0 : decide ((20 : Int) < (n : Int)) = true := decide_eq_true (by omega)
    clear hl
    go_wp2_with fail
    refine (KQ.out _).mono ?_
    rintro e wq ⟨rfl, hb⟩
    have HF := Lib.hid hb
    clear hb
    go_wp2_with fail
    go_ret
    exact ⟨rfl, HF.out⟩
  have d0 : decide ((20 : Int) < (n : Int)) = false := decide_eq_false (by omega)
  clear hl
  go_wp2_with fail
  refine (K1.out w HA.out).mono ?_
  rintro e w1 ⟨A1, n1, c1, rfl, hl1, -, ho, hb⟩
  have X1 := Lib.hid ho.pls
  have N1 := Lib.hid hl1
  replace HB := Lib.hid (bstep HB.out hb)
  clear hb ho hl1
  go_upto_region 4 with fail
  obtain ⟨w2, hw⟩ : ∃ W, w1.alloc (.cells #[.int .i64 H, .slice A1 n1 c1] 24) = W := ⟨_, rfl⟩
  obtain ⟨gC1, hg⟩ : ∃ g, w1.heap.size = g := ⟨_, rfl⟩
  have hb : Below w1.heap.size w1 w2 := hw ▸ below_alloc _ _
  have C1 : Hid (Rw.Cel w2 gC1 [.int .i64 H, .slice A1 n1 c1]) := hw ▸ hg ▸ Rw.Cel.new w1 [_, _] _
  replace HB := Lib.hid (bstep HB.out hb)
  replace X1 := Lib.hid (X1.out.on hb)
  first | rw [hw, hg] | rw [hw]
  clear hw hg hb
  go_wp2_with fail
  refine (K2.out w2 (HA.out.on HB.out)).mono ?_
  rintro e w3 ⟨A2, n2, c2, rfl, hl2, -, ho, hb⟩
  have X2 := Lib.hid ho.pls
  have N2 := Lib.hid hl2
  replace HB := Lib.hid (bstep HB.out hb)
  replace X1 := Lib.hid (X1.out.on hb)
  replace C1 := Lib.hid (C1.out.on hb)
  clear hb ho hl2
  go_upto_region 5 with fail
  obtain ⟨w4, hw⟩ : ∃ W, w3.alloc (.cells #[.int .i64 H, .slice A2 n2 c2] 24) = W := ⟨_, rfl⟩
  obtain ⟨gC2, hg⟩ : ∃ g, w3.heap.size = g := ⟨_, rfl⟩
  have hb : Below w3.heap.size w3 w4 := hw ▸ below_alloc _ _
  have C2 : Hid (Rw.Cel w4 gC2 [.int .i64 H, .slice A2 n2 c2]) := hw ▸ hg ▸ Rw.Cel.new w3 [_, _] _
  replace HB := Lib.hid (bstep HB.out hb)
  replace X1 := Lib.hid (X1.out.on hb)
  replace C1 := Lib.hid (C1.out.on hb)
  replace X2 := Lib.hid (X2.out.on hb)
  first | rw [hw, hg] | rw [hw]
  clear hw hg hb
  obtain ⟨x0, x1⟩ := C1.out.two
  obtain ⟨y0, y1⟩ := C2.out.two
  go_wp2_with fail
  refine (pipe_eq N1.out N2.out X1.out X2.out (by have := N1.out; have := HLL.out; omega)).mono ?_
  rintro e w5 ⟨rfl, hb⟩
  replace HB := Lib.hid (bstep HB.out hb)
  clear hb x0 x1 y0 y1
  go_wp2_with fail
  refine (KQ.out _).mono ?_
  rintro e wq ⟨rfl, hb⟩
  have HF := Lib.hid (bstep HB.out hb)
  clear hb
  go_wp2_with fail
  go_ret
  exact ⟨rfl, HF.out⟩
set_option maxHeartbeats 3200000 in
theorem walk_PipePushes (KK : PiKit) (w : World) (hold : Int) (A : Option Addr) (c : Nat) (P : List (List Int)) (ha : Pls w A P) (hc : P.length ≤ c) (hm : P.length ≤ 9223372036854775807) (M : Option Addr) (n' c' : Nat) (m : List Int) (hM : Cl eI w M m) (hn' : m.length = n') (hm' : n' ≤ 9223372036854775807) :
    Calls Try.prog 5 #[.agg #[.int .i64 hold, .slice A P.length c], .slice M n' c'] w fun e w' => e = .returned (.bool true) ∧ Below w.heap.size w w' := by
  have HA := Lib.hid ha
  have HM := Lib.hid hM
  have KQ := Lib.hid KK.awake
  obtain ⟨n, hn⟩ : ∃ n, P.length = n := ⟨_, rfl⟩
  rw [hn] at hm hc ⊢
  have KG := Lib.hid fun (W : World) (h : Pls W A P) => law_great hold P A n c hn W h hm
  have K1 := Lib.hid fun (W : World) (h : Pls W A P) (h2 : Cl eI W M m) => KK.push hold P m A M n c n' c' hn hc hn' W h h2 hm hm'
  have K2 := Lib.hid fun (W : World) (h : Pls W A P) (h2 : Cl eI W M m) => pr_Push hold P m A M n c n' c' hn hn' W h h2 hm hm'
  have HLL := Lib.hid (puP_len hold P m)
  obtain ⟨E, hE⟩ : ∃ x, puE hold P m = x := ⟨_, rfl⟩
  obtain ⟨H, hH⟩ : ∃ x, puH hold P m = x := ⟨_, rfl⟩
  obtain ⟨Q, hQ⟩ : ∃ x, puP hold P m = x := ⟨_, rfl⟩
  obtain ⟨O, hO⟩ : ∃ x, puO hold P m = x := ⟨_, rfl⟩
  obtain ⟨g, hg⟩ : ∃ x, grtP P = x := ⟨_, rfl⟩
  rw [hE, hH, hQ, hO] at K1 K2
  rw [hQ] at HLL
  rw [hg] at KG
  clear hE hH hQ hO hg ha hM hn hn' hc hm hm'
  go_enter Try.func5, Try.ntmps5
  go_upto_region 1 with fail
  obtain ⟨w0, hw0⟩ : ∃ W, w.alloc (.cells #[.int .i64 hold, .slice A n c] 24) = W := ⟨_, rfl⟩
  have C0 : Hid (Rw.Cel w0 w.heap.size [.int .i64 hold, .slice A n c]) := hw0 ▸ Rw.Cel.new w [_, _] _
  have HB0 : Hid (Below w.heap.size w w0) := hw0 ▸ below_alloc _ _
  rw [hw0]
  clear hw0
  obtain ⟨x0, x1⟩ := C0.out.two
  go_wp2_with fail
  refine (KG.out w0 (HA.out.on HB0.out)).mono ?_
  rintro e w1 ⟨rfl, hb⟩
  have HB := Lib.hid (bstep HB0.out hb)
  have C1 := Lib.hid (C0.out.on hb)
  clear hb x0 x1 C0 HB0
  have gone : ∀ (d : Bool), (g = true ∨ 20 < n') ∨ (g = false ∧ ¬ 20 < n') := fun _ => by cases g <;> simp <;> omega
  rcases gone true with hl | ⟨rfl, hl⟩
  · have hd : (g = true) ∨ (g = false ∧ decide ((20 : Int) < (n' : Int)) = true) := by
      cases g
      · exact Or.inr ⟨rfl, decide_eq_true (by rcases hl with h | h; cases h; omega)⟩
      · exact Or.inl rfl
    clear hl gone
    rcases hd with rfl | ⟨rfl, d0⟩
    all_goals
      go_wp2_with fail
      refine (KQ.out _).mono ?_
      rintro e wq ⟨rfl, hb⟩
      have HF := Lib.hid (bstep HB.out hb)
      clear hb
      go_wp2_with fail
      go_ret
      exact ⟨rfl, HF.out⟩
  have d0 : decide ((20 : Int) < (n' : Int)) = false := decide_eq_false (by omega)
  clear hl gone
  obtain ⟨x0, x1⟩ := C1.out.two
  go_wp2_with fail
  refine (K1.out w1 (HA.out.on HB.out) (HM.out.on HB.out)).mono ?_
  rintro e w2 ⟨A1, n1, c1, A3, n3, c3, rfl, hl1, -, hl3, ho, ho3, hb⟩
  have X1 := Lib.hid ho.pls
  have N1 := Lib.hid hl1
  have Y1 := Lib.hid (own_cl ho3).2.2
  have M1 := Lib.hid hl3
  replace HB := Lib.hid (bstep HB.out hb)
  have C2 := Lib.hid (C1.out.on hb)
  clear hb ho hl1 ho3 hl3 x0 x1 C1
  go_upto_region 4 with fail
  obtain ⟨w3, hw⟩ : ∃ W, w2.alloc (.cells #[.int .i64 H, .slice A1 n1 c1] 24) = W := ⟨_, rfl⟩
  obtain ⟨gC1, hg⟩ : ∃ g, w2.heap.size = g := ⟨_, rfl⟩
  have hb : Below w2.heap.size w2 w3 := hw ▸ below_alloc _ _
  have D3 : Hid (Rw.Cel w3 gC1 [.int .i64 H, .slice A1 n1 c1]) := hw ▸ hg ▸ Rw.Cel.new w2 [_, _] _
  replace HB := Lib.hid (bstep HB.out hb)
  replace X1 := Lib.hid (X1.out.on hb)
  have Y3 := Lib.hid (Y1.out.1.on hb)
  have C3 := Lib.hid (C2.out.on hb)
  first | rw [hw, hg] | rw [hw]
  clear hw hg hb C2
  obtain ⟨x0, x1⟩ := C3.out.two
  go_wp2_with fail
  refine (K2.out w3 (HA.out.on HB.out) (HM.out.on HB.out)).mono ?_
  rintro e w4 ⟨A2, n2, c2, A4, n4, c4, rfl, hl2, -, hl4, ho, ho4, hb⟩
  have X2 := Lib.hid ho.pls
  have N2 := Lib.hid hl2
  have Y2 := Lib.hid (own_cl ho4).2.2
  have M2 := Lib.hid hl4
  replace HB := Lib.hid (bstep HB.out hb)
  replace X1 := Lib.hid (X1.out.on hb)
  have Y4 := Lib.hid (Y3.out.on hb)
  have D4 := Lib.hid (D3.out.on hb)
  clear hb ho hl2 ho4 hl4 x0 x1 C3 D3 Y3
  go_upto_region 5 with fail
  obtain ⟨w5, hw⟩ : ∃ W, w4.alloc (.cells #[.int .i64 H, .slice A2 n2 c2] 24) = W := ⟨_, rfl⟩
  obtain ⟨gC2, hg⟩ : ∃ g, w4.heap.size = g := ⟨_, rfl⟩
  have hb : Below w4.heap.size w4 w5 := hw ▸ below_alloc _ _
  have C5 : Hid (Rw.Cel w5 gC2 [.int .i64 H, .slice A2 n2 c2]) := hw ▸ hg ▸ Rw.Cel.new w4 [_, _] _
  replace HB := Lib.hid (bstep HB.out hb)
  replace X1 := Lib.hid (X1.out.on hb)
  have D5 := Lib.hid (D4.out.on hb)
  replace X2 := Lib.hid (X2.out.on hb)
  have Y5 := Lib.hid (Y4.out.on hb)
  have Z5 := Lib.hid (Y2.out.1.on hb)
  first | rw [hw, hg] | rw [hw]
  clear hw hg hb D4 Y4
  obtain ⟨x0, x1⟩ := D5.out.two
  obtain ⟨y0, y1⟩ := C5.out.two
  go_wp2_with fail
  refine (pipe_eq N1.out N2.out X1.out X2.out (by have := N1.out; have := HLL.out; omega)).mono ?_
  rintro e w6 ⟨rfl, hb⟩
  replace HB := Lib.hid (bstep HB.out hb)
  have Y6 := Lib.hid (Y5.out.on hb)
  have Z6 := Lib.hid (Z5.out.on hb)
  clear hb x0 x1 y0 y1
  go_wp2_with fail
  refine (list_eq M1.out M2.out Y6.out Z6.out Y1.out.2).mono ?_
  rintro e w7 ⟨rfl, hb⟩
  replace HB := Lib.hid (bstep HB.out hb)
  clear hb
  go_wp2_with fail
  refine (KQ.out _).mono ?_
  rintro e wq ⟨rfl, hb⟩
  have HF := Lib.hid (bstep HB.out hb)
  clear hb
  go_wp2_with fail
  go_ret
  exact ⟨rfl, HF.out⟩
end Go.Proofs.Ytihklpkpcnahkaa.Pipe
/- Natural numbers of many limbs: lists, values, the canonical limbs; slices that hold them. No walk. -/
namespace Go.Proofs.Ytihklpkpcnahkaa
open Go.ChangeShapes Go.WideShapes Go.RowKit
set_option linter.unusedVariables false
set_option maxRecDepth 100000

theorem ret_int {k : IntKind} {a b : Int} (h : a = b) : Ending.returned (.int k a) = .returned (.int k b) := by rw [h]

/-- What a list of limbs stands for. -/
def nval : List Int → Int
  | [] => 0
  | x :: l => x + 1000000000 * nval l
theorem nval_snoc (l : List Int) (z : Int) : nval (l ++ [z]) = nval l + 1000000000 ^ l.length * z := by
  induction l with
  | nil => simp [nval]
  | cons a l ih => simp only [List.cons_append, nval, ih, List.length_cons, Int.pow_succ]; rw [Int.mul_add, Int.mul_comm (1000000000 ^ l.length) 1000000000, Int.mul_assoc]; omega
theorem nval_append (l m : List Int) : nval (l ++ m) = nval l + 1000000000 ^ l.length * nval m := by
  induction l with
  | nil => simp [nval]
  | cons a l ih => simp only [List.cons_append, nval, ih, List.length_cons, Int.pow_succ]; rw [Int.mul_add, Int.mul_comm (1000000000 ^ l.length) 1000000000, Int.mul_assoc]; omega

/-- Each limb is from 0 to Limb - 1. -/
def lok (l : List Int) : Bool := l.all fun x => decide (0 ≤ x) && decide (x < 1000000000)
theorem lok_nil : lok [] = true := rfl
theorem lok_cons {x : Int} {l : List Int} : lok (x :: l) = true ↔ (0 ≤ x ∧ x < 1000000000) ∧ lok l = true := by simp [lok]
theorem lok_append {l m : List Int} : lok (l ++ m) = true ↔ lok l = true ∧ lok m = true := by simp [lok]
theorem lok_take {l : List Int} (h : lok l = true) (k : Nat) : lok (l.take k) = true := by
  simp only [lok, List.all_eq_true] at h ⊢; exact fun x hx => h x (List.mem_of_mem_take hx)
theorem lok_drop {l : List Int} (h : lok l = true) (k : Nat) : lok (l.drop k) = true := by
  simp only [lok, List.all_eq_true] at h ⊢; exact fun x hx => h x (List.mem_of_mem_drop hx)
theorem lok_at {l : List Int} (h : lok l = true) {k : Nat} {z : Int} (hz : l[k]? = some z) : 0 ≤ z ∧ z < 1000000000 := by
  simp only [lok, List.all_eq_true] at h
  simpa using h z (List.mem_of_getElem? hz)
theorem lok_getD {l : List Int} (h : lok l = true) (k : Nat) : 0 ≤ l.getD k 0 ∧ l.getD k 0 < 1000000000 := by
  rw [List.getD_eq_getElem?_getD]
  cases hz : l[k]? with
  | none => simp
  | some z => exact lok_at h hz
theorem nval_nonneg {l : List Int} (h : lok l = true) : 0 ≤ nval l := by
  induction l with
  | nil => simp [nval]
  | cons a l ih => rw [lok_cons] at h; have := ih h.2; simp only [nval]; omega
theorem nval_lt {l : List Int} (h : lok l = true) : nval l < 1000000000 ^ l.length := by
  induction l with
  | nil => simp [nval]
  | cons a l ih => rw [lok_cons] at h; have := ih h.2; simp only [nval, List.length_cons, Int.pow_succ]; omega
theorem nval_zeros (k : Nat) : nval (List.replicate k 0) = 0 := by
  induction k with
  | zero => rfl
  | succ k ih => simp [List.replicate_succ, nval, ih]
theorem lok_zeros (k : Nat) : lok (List.replicate k 0) = true := by
  induction k with
  | zero => rfl
  | succ k ih => rw [List.replicate_succ, lok_cons]; exact ⟨by omega, ih⟩

/-- The limbs of a number. -/
def limbs (n : Nat) : List Int := if h : n = 0 then [] else ((n % 1000000000 : Nat) : Int) :: limbs (n / 1000000000)
termination_by n
decreasing_by omega
theorem limbs_zero : limbs 0 = [] := by rw [limbs]; simp
theorem limbs_pos {n : Nat} (h : n ≠ 0) : limbs n = ((n % 1000000000 : Nat) : Int) :: limbs (n / 1000000000) := by rw [limbs]; simp [h]
theorem limbs_step {x : Int} {n : Nat} (h0 : 0 ≤ x) (h1 : x < 1000000000) (h : x.toNat + 1000000000 * n ≠ 0) : limbs (x.toNat + 1000000000 * n) = x :: limbs n := by
  rw [limbs_pos h]
  have e1 : (x.toNat + 1000000000 * n) % 1000000000 = x.toNat := by omega
  have e2 : (x.toNat + 1000000000 * n) / 1000000000 = n := by omega
  rw [e1, e2]
  congr 1
  omega
theorem lok_limbs (n : Nat) : lok (limbs n) = true := by
  induction n using Nat.strongRecOn with
  | ind n ih =>
    by_cases h : n = 0
    · subst h; rw [limbs_zero]; rfl
    · rw [limbs_pos h, lok_cons]; exact ⟨by omega, ih _ (by omega)⟩
theorem nval_limbs (n : Nat) : nval (limbs n) = n := by
  induction n using Nat.strongRecOn with
  | ind n ih =>
    by_cases h : n = 0
    · subst h; rw [limbs_zero]; rfl
    · rw [limbs_pos h, nval, ih _ (by omega)]; omega
theorem limbs_inj {m n : Nat} (h : limbs m = limbs n) : m = n := by
  have := congrArg nval h; rw [nval_limbs, nval_limbs] at this; omega

/-- Without the zeros at the end. -/
def trimL : List Int → List Int
  | [] => []
  | x :: l => if trimL l = [] ∧ x = 0 then [] else x :: trimL l
theorem trimL_snoc_zero (l : List Int) : trimL (l ++ [0]) = trimL l := by
  induction l with
  | nil => simp [trimL]
  | cons a l ih => simp only [List.cons_append, trimL, ih]
theorem trimL_snoc {l : List Int} {z : Int} (h : z ≠ 0) : trimL (l ++ [z]) = l ++ [z] := by
  induction l with
  | nil => simp [trimL, h]
  | cons a l ih => simp only [List.cons_append, trimL, ih]; simp
theorem trimL_limbs {l : List Int} (h : lok l = true) : trimL l = limbs (nval l).toNat := by
  induction l with
  | nil => simp [trimL, nval, limbs_zero]
  | cons a l ih =>
    rw [lok_cons] at h
    have hn := nval_nonneg h.2
    have ih := ih h.2
    have e : (nval (a :: l)).toNat = a.toNat + 1000000000 * (nval l).toNat := by simp only [nval]; omega
    rw [e, trimL, ih]
    by_cases hz : a.toNat + 1000000000 * (nval l).toNat = 0
    · have h1 : (nval l).toNat = 0 := by omega
      rw [hz, h1, limbs_zero, if_pos ⟨rfl, by omega⟩]
    · rw [limbs_step h.1.1 h.1.2 hz, if_neg]
      rintro ⟨h1, h2⟩
      have : (nval l).toNat = 0 := limbs_inj (h1.trans limbs_zero.symm)
      omega

/-- In normal form: limbs, the last of which is not 0. -/
def nrm (l : List Int) : Bool := lok l && (l.getLast? != some 0)
theorem trimL_nrm {l : List Int} (h : l.getLast? ≠ some 0) : trimL l = l := by
  rcases List.eq_nil_or_concat l with rfl | ⟨l', z, rfl⟩
  · rfl
  · rw [List.concat_eq_append] at h ⊢
    rw [List.getLast?_append] at h
    exact trimL_snoc (by simpa using h)
theorem nrm_limbs {l : List Int} (h : nrm l = true) : l = limbs (nval l).toNat := by
  simp only [nrm, Bool.and_eq_true, bne_iff_ne] at h
  rw [← trimL_limbs h.1, trimL_nrm h.2]
theorem nrm_trimL {l : List Int} (h : lok l = true) : nrm (trimL l) = true := by
  induction l with
  | nil => rfl
  | cons a l ih =>
    rw [lok_cons] at h
    have ih := ih h.2
    simp only [nrm, Bool.and_eq_true, bne_iff_ne] at ih ⊢
    unfold trimL
    split
    · exact ⟨rfl, by simp⟩
    · rename_i hc
      refine ⟨lok_cons.mpr ⟨h.1, ih.1⟩, ?_⟩
      cases ht : trimL l with
      | nil => simp [ht] at hc ⊢; exact hc
      | cons b m => rw [List.getLast?_cons_cons, ← ht]; exact ih.2
theorem nrm_of_limbs (n : Nat) : nrm (limbs n) = true := by
  have h := nrm_trimL (lok_limbs n)
  rw [trimL_limbs (lok_limbs n), nval_limbs] at h
  simpa using h
theorem nrm_lok {l : List Int} (h : nrm l = true) : lok l = true := by simp only [nrm, Bool.and_eq_true] at h; exact h.1
theorem pow_pos' (k : Nat) : (0 : Int) < 1000000000 ^ k := Int.pow_pos (by decide)
theorem limbs_len_le {n k : Nat} : (limbs n).length ≤ k ↔ n < 1000000000 ^ k := by
  induction k generalizing n with
  | zero =>
    by_cases h : n = 0
    · subst h; rw [limbs_zero]; simp
    · rw [limbs_pos h]; simp; omega
  | succ k ih =>
    by_cases h : n = 0
    · subst h; rw [limbs_zero]; simp [Nat.pow_pos]
    · rw [limbs_pos h, List.length_cons, Nat.succ_le_succ_iff, ih, Nat.div_lt_iff_lt_mul (by decide), Nat.pow_succ]

/-- A valid number. -/
def validB (l : List Int) : Bool := decide (l.length ≤ 48) && nrm l
theorem validB_iff {l : List Int} : validB l = true ↔ l.length ≤ 48 ∧ nrm l = true := by simp [validB]

/-- At the address lie the integers zs, in a block from lo to below hi; where lo is not 0, none of their cells is frozen. -/
def Holds (w : World) (lo hi : Nat) (A : Option Addr) (zs : List Int) : Prop :=
  ∀ k z, zs[k]? = some z → ∃ b off, A = some ⟨b, off, none⟩ ∧ (lo ≤ b ∧ (lo = 0 ∨ w.frozen? ⟨b, off + k, none⟩ = false)) ∧ b < hi ∧ w.cell? ⟨b, off + k, none⟩ = some (.int .i64 z)
/-- A slice value that holds the integers zs, in a block from lo to below hi. -/
def Sl (w : World) (lo hi : Nat) (v : Value) (zs : List Int) : Prop :=
  ∃ A c, v = .slice A zs.length c ∧ zs.length ≤ c ∧ c ≤ maxLen ∧ Holds w lo hi A zs
theorem Holds.keep {w w' : World} {lo hi : Nat} {A : Option Addr} {zs : List Int} (h : Holds w lo hi A zs) (hb : ∀ k, lo ≤ k → k < hi → w'.heap[k]? = w.heap[k]?) : Holds w' lo hi A zs := by
  intro k z hz
  obtain ⟨b, off, hA, hlo, hlt, hc⟩ := h k z hz
  exact ⟨b, off, hA, ⟨hlo.1, hlo.2.imp id fun h => (World.frozen?_of_block (w := w) (a := ⟨b, off + k, none⟩) (hb b hlo.1 hlt)).trans h⟩, hlt, (World.cell?_of_block (w := w) (a := ⟨b, off + k, none⟩) (hb b hlo.1 hlt)).trans hc⟩
theorem Holds.below {w w' : World} {B lo hi : Nat} {A : Option Addr} {zs : List Int} (h : Holds w lo hi A zs) (hb : Below B w w') (hB : hi ≤ B) : Holds w' lo hi A zs :=
  h.keep fun k _ hk => hb.block k (by omega)
theorem Holds.more {w : World} {lo hi lo' hi' : Nat} {A : Option Addr} {zs : List Int} (h : Holds w lo hi A zs) (hl : lo' ≤ lo) (hh : hi ≤ hi') : Holds w lo' hi' A zs := by
  intro k z hz
  obtain ⟨b, off, hA, hlo, hlt, hc⟩ := h k z hz
  exact ⟨b, off, hA, ⟨by omega, hlo.2.imp (by omega) id⟩, by omega, hc⟩
theorem Holds.take {w : World} {lo hi : Nat} {A : Option Addr} {zs : List Int} (h : Holds w lo hi A zs) (n : Nat) : Holds w lo hi A (zs.take n) := by
  intro k z hz
  rw [List.getElem?_take] at hz
  split at hz
  · exact h k z hz
  · cases hz
theorem Holds.nil (w : World) (lo hi : Nat) (A : Option Addr) : Holds w lo hi A [] := by intro k z hz; simp at hz

/-- A block of this call's own whose first cells are the integers zs, and no cell of which is frozen. -/
def Row (w : World) (g : Nat) (zs : List Int) : Prop :=
  ∃ cur t, w.heap[g]? = some (.cells cur t (0, 0)) ∧ ∀ (i : Nat) (z : Int), zs[i]? = some z → cur[i]? = some (Value.int .i64 z)
theorem Row.lt {w : World} {g : Nat} {zs : List Int} (h : Row w g zs) : g < w.heap.size := by
  obtain ⟨cur, t, hg, _⟩ := h; exact lt_of_block hg
theorem Row.cell {w : World} {g : Nat} {zs : List Int} (h : Row w g zs) {i : Nat} {z : Int} (hz : zs[i]? = some z) : w.cell? ⟨g, i, none⟩ = some (.int .i64 z) := by
  obtain ⟨cur, t, hg, hc⟩ := h; rw [cell_of_row w g i cur t (0, 0) hg]; exact hc i z hz
theorem Row.frozen {w : World} {g : Nat} {zs : List Int} (h : Row w g zs) (i : Nat) : w.frozen? ⟨g, i, none⟩ = false := by
  obtain ⟨cur, t, hg, hc⟩ := h; simp [World.frozen?, hg]
theorem Row.keep {w w' : World} {g : Nat} {zs : List Int} (h : Row w g zs) (hk : w'.heap[g]? = w.heap[g]?) : Row w' g zs := by
  obtain ⟨cur, t, hg, hc⟩ := h; exact ⟨cur, t, hk.trans hg, hc⟩
theorem Row.below {w w' : World} {B g : Nat} {zs : List Int} (h : Row w g zs) (hb : Below B w w') (hg : g < B) : Row w' g zs := h.keep (hb.block g hg)
theorem Row.store {w : World} {g : Nat} {zs : List Int} (h : Row w g zs) (i : Nat) (v : Int) : Row (w.setCell ⟨g, i, none⟩ (.int .i64 v)) g (zs.set i v) := by
  obtain ⟨cur, t, hg, hc⟩ := h
  refine ⟨cur.set! i (.int .i64 v), t, by simp [World.setCell, Array.getElem?_modify, hg], fun j z hz => ?_⟩
  rw [List.getElem?_set] at hz
  split at hz
  · rename_i e
    subst e
    split at hz
    · rename_i hlt
      obtain rfl : v = z := by simpa using hz
      have := hc i zs[i] (List.getElem?_eq_getElem hlt)
      have hlt2 : i < cur.size := by
        rcases Nat.lt_or_ge i cur.size with h | h
        · exact h
        · rw [Array.getElem?_eq_none h] at this; cases this
      simp [Array.set!_eq_setIfInBounds, hlt2]
    · cases hz
  · rename_i e
    simp only [Array.set!_eq_setIfInBounds, Array.getElem?_setIfInBounds]
    rw [if_neg e]; exact hc j z hz
theorem Row.other {w : World} {g : Nat} {zs : List Int} (h : Row w g zs) {p : Addr} (hp : p.block ≠ g) (u : Value) : Row (w.setCell p u) g zs :=
  h.keep (Below.heap_setCell w p u g (fun e => hp e.symm))
theorem Row.holds {w : World} {g off : Nat} {zs xs : List Int} (h : Row w g zs) (hx : ∀ k z, xs[k]? = some z → zs[off + k]? = some z) {lo hi : Nat} (h1 : lo ≤ g) (h2 : g < hi) : Holds w lo hi (some ⟨g, off, none⟩) xs :=
  fun k z hz => ⟨g, off, rfl, ⟨h1, Or.inr (h.frozen _)⟩, h2, h.cell (hx k z hz)⟩
theorem Row.take {w : World} {g : Nat} {zs : List Int} (h : Row w g zs) (n : Nat) : Row w g (zs.take n) := by
  obtain ⟨cur, t, hg, hc⟩ := h
  refine ⟨cur, t, hg, fun i z hz => ?_⟩
  rw [List.getElem?_take] at hz
  split at hz
  · exact hc i z hz
  · cases hz
/-- What a call owns (append, make) is such a block, or nil. -/
theorem row_of_owns {w : World} {base e : Nat} {v : Value} {zs : List Int} (h : w.ownsRow base e 1 v zs.length (zs.map (Value.int .i64))) :
    (v = .slice none 0 0 ∧ zs = []) ∨ ∃ g cap, v = .slice (some ⟨g, 0, none⟩) zs.length cap ∧ base ≤ g ∧ zs.length ≤ cap ∧ cap ≤ maxLen ∧ Row w g zs := by
  obtain ⟨h1, ⟨rfl, h2⟩ | ⟨g, cap, cur, rfl, h2, h3, h4, h5, h6, h7⟩⟩ := h
  · exact Or.inl ⟨rfl, List.eq_nil_of_length_eq_zero h2⟩
  · refine Or.inr ⟨g, cap, rfl, h2, h4, h5, cur, e, h3, fun i z hz => ?_⟩
    rw [Nat.mul_one] at h7
    have hi : i < zs.length := by
      rcases Nat.lt_or_ge i zs.length with h | h
      · exact h
      · rw [List.getElem?_eq_none h] at hz; cases hz
    have e1 : (cur.toList.take zs.length)[i]? = some (.int .i64 z) := by rw [h7, List.getElem?_map, hz]; rfl
    rw [List.getElem?_take, if_pos hi, Array.getElem?_toList] at e1
    first | done | exact e1
theorem made_zeros (n : Nat) : (madeCells (Value.int .i64 0).cells (n * 1)).toList = (List.replicate n (0 : Int)).map (Value.int .i64) := by
  have e : ∀ x : Nat, (Value.int .i64 0).cells[x % (Value.int .i64 0).cells.size]! = Value.int .i64 0 := by intro x; simp [Value.cells, Nat.mod_one]
  unfold madeCells
  simp only [e, Nat.mul_one, Array.toList_map, Array.toList_range, List.map_replicate]
  apply List.ext_getElem?
  intro i
  simp only [List.getElem?_map, List.getElem?_replicate]
  split
  · rename_i h; rw [List.getElem?_range h]; rfl
  · rename_i h; rw [List.getElem?_eq_none (by simp; omega)]; rfl
theorem sl_of_owns {w : World} {base e : Nat} {v : Value} {zs : List Int} (h : w.ownsRow base e 1 v zs.length (zs.map (Value.int .i64))) : Sl w base w.heap.size v zs := by
  rcases row_of_owns h with ⟨rfl, rfl⟩ | ⟨g, cap, rfl, h1, h2, h3, h4⟩
  · exact ⟨none, 0, rfl, Nat.le_refl _, by unfold maxLen; omega, fun k z hz => by simp at hz⟩
  · exact ⟨_, cap, rfl, h2, h3, h4.holds (fun k z hz => by simpa using hz) h1 h4.lt⟩
theorem own_block_ge {w : World} {base e size n : Nat} {v : Value} {xs : List Value} (h : w.ownsRow base e size v n xs) : ∀ k, v.ownBlock = some k → base ≤ k := by
  obtain ⟨h1, ⟨rfl, h2⟩ | ⟨g, cap, cur, rfl, h2, _⟩⟩ := h
  · intro k hk; cases hk
  · intro k hk; obtain rfl : g = k := by simpa [Value.ownBlock] using hk
    exact h2
theorem own_snoc {w : World} {base e : Nat} {v : Value} {ds : List Int} {x : Int} (h : w.ownsRow base e 1 v (ds.length + 1) (ds.map (Value.int .i64) ++ [.int .i64 x])) :
    w.ownsRow base e 1 v (ds ++ [x]).length ((ds ++ [x]).map (Value.int .i64)) := by
  rw [List.length_append, List.map_append]; exact h
end Go.Proofs.Ytihklpkpcnahkaa
/- Contracts of nat.split, nat.ofWord, nat.word. -/
namespace Go.Proofs.Ytihklpkpcnahkaa
open Go.ChangeShapes Go.WideShapes Go.RowKit
set_option linter.unusedVariables false
set_option maxRecDepth 100000

theorem info_int : (Try.prog.info? 3).map (fun i => (i.zero, i.size, i.bytes)) = some (some (.int .i64 0), 1, 8) := by kernel_rfl

theorem tdiv_tmod_pos {n : Int} (h : ¬ n.tmod 1000000000 < 0) : n.tmod 1000000000 = n % 1000000000 ∧ n.tdiv 1000000000 = n / 1000000000 := by
  have e := Int.tdiv_mul_add_tmod n 1000000000
  have b : n.tmod 1000000000 < 1000000000 := Int.tmod_lt_of_pos _ (by decide)
  omega
theorem tdiv_tmod_neg {n : Int} (h : n.tmod 1000000000 < 0) : n.tmod 1000000000 + 1000000000 = n % 1000000000 ∧ n.tdiv 1000000000 - 1 = n / 1000000000 := by
  have e := Int.tdiv_mul_add_tmod n 1000000000
  have b : -1000000000 < n.tmod 1000000000 := by
    have := Int.lt_tmod_of_pos n (b := 1000000000) (by decide); omega
  omega
theorem ret_two {k l : IntKind} {a b c d : Int} (h : a = c) (h2 : b = d) : Ending.returned (.tuple #[.int k a, .int l b]) = .returned (.tuple #[.int k c, .int l d]) := by rw [h, h2]

theorem tdiv_nonneg' {n : Int} (h : 0 ≤ n) : n.tdiv 1000000000 = n / 1000000000 := Int.tdiv_eq_ediv_of_nonneg h
theorem tmod_nonneg' {n : Int} (h : 0 ≤ n) : n.tmod 1000000000 = n % 1000000000 := Int.tmod_eq_emod_of_nonneg h
theorem limbs_round {m : Int} (h : 0 < m) : limbs m.toNat = [m % 1000000000] ++ limbs (m / 1000000000).toNat := by
  rw [limbs_pos (by omega), List.singleton_append]
  have e : m.toNat / 1000000000 = (m / 1000000000).toNat := by omega
  rw [e]; congr 1; omega

/-- What the function 'word' makes of limbs. -/
theorem nval_drop_step {l : List Int} {k : Nat} {z : Int} (h : l[k]? = some z) : nval (l.drop k) = z + 1000000000 * nval (l.drop (k + 1)) := by
  have hk : k < l.length := by
    rcases Nat.lt_or_ge k l.length with h1 | h1
    · exact h1
    · rw [List.getElem?_eq_none h1] at h; cases h
  rw [List.drop_eq_getElem_cons hk, nval]
  rw [List.getElem?_eq_getElem hk] at h
  cases h; rfl
theorem nval_small {l : List Int} (h : lok l = true) (h2 : l.length ≤ 2) : 0 ≤ nval l ∧ nval l < 1000000000000000000 := by
  have a := nval_nonneg h
  have b := nval_lt h
  have c : (1000000000 : Int) ^ l.length ≤ 1000000000 ^ 2 := by
    match l, h2 with
    | [], _ => decide
    | [x], _ => show (1000000000 : Int) ^ 1 ≤ _; decide
    | [x, y], _ => exact Int.le_refl _
  have e : (1000000000 : Int) ^ 2 = 1000000000000000000 := by decide
  omega
theorem nval_drop_small {l : List Int} (h : lok l = true) (h2 : l.length ≤ 2) {k : Nat} (hk : 0 < k) : 0 ≤ nval (l.drop k) ∧ nval (l.drop k) < 1000000000 := by
  have a := nval_nonneg (lok_drop h k)
  have b := nval_lt (lok_drop h k)
  have hl : (l.drop k).length ≤ 1 := by rw [List.length_drop]; omega
  have c : (1000000000 : Int) ^ (l.drop k).length ≤ 1000000000 := by
    match (l.drop k), hl with
    | [], _ => decide
    | [x], _ => show (1000000000 : Int) ^ 1 ≤ _; decide
  omega

end Go.Proofs.Ytihklpkpcnahkaa
/- Contracts of nat.trimmed, nat.limited, nat.Of, nat.compare. -/
namespace Go.Proofs.Ytihklpkpcnahkaa
open Go.ChangeShapes Go.WideShapes Go.RowKit
set_option linter.unusedVariables false
set_option maxRecDepth 100000

theorem trimL_prefix (l : List Int) : ∃ m, l = trimL l ++ m := by
  induction l with
  | nil => exact ⟨[], rfl⟩
  | cons a l ih =>
    obtain ⟨m, hm⟩ := ih
    unfold trimL
    split
    · exact ⟨a :: l, rfl⟩
    · exact ⟨m, by rw [List.cons_append, ← hm]⟩
theorem trimL_len_le (l : List Int) : (trimL l).length ≤ l.length := by
  obtain ⟨m, hm⟩ := trimL_prefix l
  have := congrArg List.length hm
  rw [List.length_append] at this; omega
theorem trimL_eq_take (l : List Int) : l.take (trimL l).length = trimL l := by
  obtain ⟨m, hm⟩ := trimL_prefix l
  have e : (trimL l ++ m).take (trimL l).length = trimL l := by simp
  rw [← hm] at e; exact e
theorem trim_step {zs : List Int} {k : Nat} {z : Int} (hz : zs[k]? = some z) : zs.take (k + 1) = zs.take k ++ [z] := by
  rw [List.take_add_one, hz]; rfl

/-- A number that is returned: the slice and the error. -/
def fitV (v : Value) (n : Nat) : Value := if n < 1000000000 ^ 48 then v else .slice none 0 0
def fitE (n : Nat) : Int := if n < 1000000000 ^ 48 then 0 else 2
def fitN (n : Nat) : Nat := if n < 1000000000 ^ 48 then n else 0

/-- Of. -/
def ofE (n : Int) : Int := if n < 0 then 1 else 0
end Go.Proofs.Ytihklpkpcnahkaa
/- The contract of nat.addTimes. -/
namespace Go.Proofs.Ytihklpkpcnahkaa
open Go.ChangeShapes Go.WideShapes Go.RowKit
set_option linter.unusedVariables false
set_option maxRecDepth 100000

/-- Of the world, block g alone has turned. -/
structure Only (g : Nat) (w w' : World) : Prop where
  os : w'.os = w.os
  tape : w'.tape = w.tape
  output : w'.output = w.output
  size : w'.heap.size = w.heap.size
  block : ∀ k, k ≠ g → w'.heap[k]? = w.heap[k]?
theorem Only.refl (g : Nat) (w : World) : Only g w w := ⟨rfl, rfl, rfl, rfl, fun _ _ => rfl⟩
theorem Only.trans {g : Nat} {a b c : World} (h : Only g a b) (k : Only g b c) : Only g a c :=
  ⟨k.os.trans h.os, k.tape.trans h.tape, k.output.trans h.output, k.size.trans h.size, fun i hi => (k.block i hi).trans (h.block i hi)⟩
theorem Only.setCell {g : Nat} {a w : World} (h : Only g a w) {p : Addr} (hp : p.block = g) (u : Value) : Only g a (w.setCell p u) :=
  h.trans ⟨rfl, rfl, rfl, by simp [World.setCell], fun k hk => Below.heap_setCell _ _ _ _ (by omega)⟩
theorem Only.toBelow {g B : Nat} {w w' : World} (h : Only g w w') (hB : B ≤ g) : Below B w w' :=
  ⟨h.os, h.tape, h.output, by rw [h.size]; omega, fun k hk => h.block k (by omega)⟩
theorem Only.holds {g : Nat} {w w' : World} (h : Only g w w') {lo hi : Nat} {A : Option Addr} {zs : List Int} (hS : Holds w lo hi A zs) (hg : g < lo ∨ hi ≤ g) : Holds w' lo hi A zs :=
  hS.keep fun k h1 h2 => h.block k (by omega)
theorem Only.row {g k : Nat} {w w' : World} (h : Only g w w') {zs : List Int} (hR : Row w k zs) (hk : k ≠ g) : Row w' k zs := hR.keep (h.block k hk)

/-- D laid over Z from place off on. -/
def laid (Z : List Int) (off : Nat) (D : List Int) : List Int := Z.take off ++ (D ++ Z.drop (off + D.length))
theorem laid_nil (Z : List Int) (off : Nat) : laid Z off [] = Z := by simp [laid]
theorem laid_length {Z : List Int} {off : Nat} {D : List Int} (h : off + D.length ≤ Z.length) : (laid Z off D).length = Z.length := by simp [laid]; omega
theorem laid_next {Z : List Int} {off : Nat} {D : List Int} (h : off + D.length ≤ Z.length) (j : Nat) : (laid Z off D)[off + D.length + j]? = Z[off + D.length + j]? := by
  unfold laid
  rw [List.getElem?_append_right (by rw [List.length_take]; omega), List.length_take, Nat.min_eq_left (by omega), List.getElem?_append_right (by omega), List.getElem?_drop]
  congr 1; omega
theorem laid_before {Z : List Int} {off : Nat} {D : List Int} (h : off + D.length ≤ Z.length) {j : Nat} (hj : j < off) : (laid Z off D)[j]? = Z[j]? := by
  unfold laid
  rw [List.getElem?_append_left (by rw [List.length_take]; omega), List.getElem?_take, if_pos hj]
theorem laid_in {Z : List Int} {off : Nat} {D : List Int} (h : off + D.length ≤ Z.length) {j : Nat} (hj : j < D.length) : (laid Z off D)[off + j]? = D[j]? := by
  unfold laid
  rw [List.getElem?_append_right (by rw [List.length_take]; omega), List.length_take, Nat.min_eq_left (by omega), List.getElem?_append_left (by omega)]
  congr 1; omega
theorem laid_set {Z : List Int} {off : Nat} {D : List Int} (h : off + D.length < Z.length) (v : Int) : (laid Z off D).set (off + D.length) v = laid Z off (D ++ [v]) := by
  unfold laid
  have e1 : (Z.take off).length = off := by rw [List.length_take]; omega
  rw [List.set_append_right _ _ (by omega), e1, Nat.add_sub_cancel_left, List.set_append_right _ _ (Nat.le_refl _), Nat.sub_self]
  rw [List.length_append, List.append_assoc]
  congr 2
  rw [List.drop_eq_getElem_cons (by omega)]
  rfl

/-- The limbs of s + n * a + c; what is carried into the last one stays there. -/
def addT : List Int → List Int → Int → Int → List Int
  | [], _, _, _ => []
  | [z], _, _, c => [z + c]
  | x :: y :: s, a, n, c => (c + x + n * a.headD 0) % 1000000000 :: addT (y :: s) a.tail n ((c + x + n * a.headD 0) / 1000000000)
theorem addT_length (s : List Int) : ∀ (a : List Int) (n c : Int), (addT s a n c).length = s.length := by
  induction s with
  | nil => intro a n c; rfl
  | cons x s ih =>
    intro a n c
    cases s with
    | nil => rfl
    | cons y s => rw [addT, List.length_cons, ih]; rfl
theorem head_tail (a : List Int) : nval a = a.headD 0 + 1000000000 * nval a.tail := by cases a <;> simp [nval]
theorem addT_val (s : List Int) : ∀ (a : List Int) (n c : Int), a.length < s.length → nval (addT s a n c) = nval s + n * nval a + c := by
  induction s with
  | nil => intro a n c h; simp at h
  | cons x s ih =>
    intro a n c h
    cases s with
    | nil => obtain rfl : a = [] := List.eq_nil_of_length_eq_zero (by simp at h; simp [h]); simp [addT, nval]
    | cons y s =>
      have e := head_tail a
      have i := ih a.tail n ((c + x + n * a.headD 0) / 1000000000) (by simp at h ⊢; omega)
      rw [addT, nval, i, e, nval.eq_2 x, Int.mul_add n]
      have e2 : n * (1000000000 * nval a.tail) = 1000000000 * (n * nval a.tail) := by rw [Int.mul_left_comm]
      rw [e2]
      obtain ⟨p, hp⟩ : ∃ p, p = n * a.headD 0 := ⟨_, rfl⟩
      obtain ⟨q, hq⟩ : ∃ q, q = n * nval a.tail := ⟨_, rfl⟩
      obtain ⟨r, hr⟩ : ∃ r, r = nval (y :: s) := ⟨_, rfl⟩
      rw [← hp, ← hq, ← hr]
      omega
theorem addT_lok (s : List Int) : ∀ (a : List Int) (n c : Int), lok (addT s a n c).dropLast = true := by
  induction s with
  | nil => intro a n c; rfl
  | cons x s ih =>
    intro a n c
    cases s with
    | nil => rfl
    | cons y s =>
      rw [addT]
      have hl := addT_length (y :: s) a.tail n ((c + x + n * a.headD 0) / 1000000000)
      rw [List.dropLast_cons_of_ne_nil (by intro h; rw [h] at hl; simp at hl), lok_cons]
      exact ⟨by omega, ih _ _ _⟩
theorem addT_step {S A : List Int} {k : Nat} {x : Int} (n c : Int) (hx : S[k]? = some x) (hk : k + 1 < S.length) :
    addT (S.drop k) (A.drop k) n c = (c + x + n * A.getD k 0) % 1000000000 :: addT (S.drop (k + 1)) (A.drop (k + 1)) n ((c + x + n * A.getD k 0) / 1000000000) := by
  have hk1 : k < S.length := by omega
  rw [List.getElem?_eq_getElem hk1] at hx
  cases hx
  rw [List.drop_eq_getElem_cons hk1, List.drop_eq_getElem_cons hk, addT, ← List.drop_eq_getElem_cons hk]
  have e1 : (A.drop k).headD 0 = A.getD k 0 := by
    rw [List.headD_eq_head?_getD, List.head?_drop, List.getD_eq_getElem?_getD]
  have e2 : (A.drop k).tail = A.drop (k + 1) := by rw [List.tail_drop]
  rw [e1, e2]
theorem mul_bd {n a : Int} (h1 : -1000000000 < n) (h2 : n < 1000000000) (h3 : 0 ≤ a) (h4 : a < 1000000000) : -999999998000000001 ≤ n * a ∧ n * a ≤ 999999998000000001 := by
  have e1 : n * a ≤ 999999999 * a := Int.mul_le_mul_of_nonneg_right (by omega) h3
  have e2 : (-999999999) * a ≤ n * a := Int.mul_le_mul_of_nonneg_right (by omega) h3
  omega

end Go.Proofs.Ytihklpkpcnahkaa
/- Contracts of nat.copied, nat.times. -/
namespace Go.Proofs.Ytihklpkpcnahkaa
open Go.ChangeShapes Go.WideShapes Go.RowKit
set_option linter.unusedVariables false
set_option maxRecDepth 100000

/-- xs, filled with zeros up to n. -/
def padL (xs : List Int) (n : Nat) : List Int := xs ++ List.replicate (n - xs.length) 0
theorem padL_length {xs : List Int} {n : Nat} (h : xs.length ≤ n) : (padL xs n).length = n := by simp [padL]; omega
theorem padL_val (xs : List Int) (n : Nat) : nval (padL xs n) = nval xs := by rw [padL, nval_append, nval_zeros]; simp
theorem padL_lok {xs : List Int} (h : lok xs = true) (n : Nat) : lok (padL xs n) = true := by rw [padL, lok_append]; exact ⟨h, lok_zeros _⟩
theorem info_size : (Try.prog.info? 3).map (·.size) = some 1 := by kernel_rfl
theorem cells_ints {xs : List Int} : ∀ v ∈ xs.map (Value.int .i64), v.oneCell' = true := by
  intro v hv
  simp only [List.mem_map] at hv
  obtain ⟨x, _, rfl⟩ := hv
  rfl
theorem row_of_heap {w : World} {g : Nat} {t : TypeId} {zs : List Int} (h : w.heap[g]? = some (.cells (zs.map (Value.int .i64)).toArray t (0, 0))) : Row w g zs :=
  ⟨_, t, h, fun i z hz => by rw [List.getElem?_toArray, List.getElem?_map, hz]; rfl⟩
theorem splice_pad (xs : List Int) (n : Nat) (h : xs.length ≤ n) :
    splice ((List.replicate n (0 : Int)).map (Value.int .i64)) 0 (xs.map (Value.int .i64)) = (padL xs n).map (Value.int .i64) := by
  simp [splice, padL, List.drop_replicate]

theorem heap_of_made {w : World} {base e g n : Nat} (h : w.ownsRow base e 1 (.slice (some ⟨g, 0, none⟩) n n) n (madeCells (Value.int .i64 0).cells (n * 1)).toList) :
    w.heap[g]? = some (.cells ((List.replicate n (0 : Int)).map (Value.int .i64)).toArray e (0, 0)) := by
  obtain ⟨h1, ⟨h2, _⟩ | ⟨g', cap, cur, h2, h3, h4, h5, h6, h7, h8⟩⟩ := h
  · cases h2
  · cases h2
    rw [h4, ← made_zeros, ← h8, List.take_of_length_le (by rw [Array.length_toList]; omega), Array.toArray_toList]
theorem holds_cells {w : World} {lo hi : Nat} {A : Option Addr} {xs : List Int} (h : Holds w lo hi A xs) (hp : 0 < (xs.map (Value.int .i64)).length) :
    ∃ ad, A = some ad ∧ ∀ j v, (xs.map (Value.int .i64))[j]? = some v → w.cell? (ad.add j) = some v := by
  rw [List.length_map] at hp
  obtain ⟨b, off, rfl, _, _, _⟩ := h 0 xs[0] (List.getElem?_eq_getElem hp)
  refine ⟨_, rfl, fun j v hv => ?_⟩
  rw [List.getElem?_map] at hv
  cases hj : xs[j]? with
  | none => rw [hj] at hv; cases hv
  | some z =>
    rw [hj] at hv
    obtain rfl : Value.int .i64 z = v := by simpa using hv
    obtain ⟨b', off', e, _, _, hc⟩ := h j z hj
    cases e
    have ea : (⟨b, off, none⟩ : Addr).add j = ⟨b, off + j, none⟩ := by
      unfold Addr.add
      split
      · rename_i h; subst h; rfl
      · rfl
    rw [ea]; exact hc

theorem copied_prep {w w1 : World} {lo hi n : Nat} {A : Option Addr} {xs : List Int} {cs zs : List Value} (hS : Holds w lo hi A xs) (hh : hi ≤ w.heap.size) (hn : xs.length ≤ n)
    (hcs : cs = xs.map (Value.int .i64)) (hzs : zs = (List.replicate n (0 : Int)).map (Value.int .i64))
    (hown : w1.ownsRow w.heap.size 3 1 (.slice (some ⟨w.heap.size, 0, none⟩) n n) n (madeCells (Value.int .i64 0).cells (n * 1)).toList) (hgrow : w.grownBy w1 none) :
    Hid (w1.heap[w.heap.size]? = some (.cells zs.toArray 3 (0, 0))) ∧ Hid (Below w.heap.size w w1) ∧
    Hid (0 < cs.length → some (⟨w.heap.size, 0, none⟩ : Addr) = some ⟨w.heap.size, 0, none⟩ ∧ ∃ ad, A = some ad ∧ ∀ j v, cs[j]? = some v → w1.cell? (ad.add j) = some v) := by
  have hbel : Below w.heap.size w w1 := (Below.refl _ _).grown hgrow (Nat.le_refl _) (fun k hk => by cases hk)
  subst hcs hzs
  exact ⟨heap_of_made hown, hbel, fun hp => ⟨rfl, holds_cells (hS.below hbel hh) hp⟩⟩
theorem copied_end {w w2 : World} {n : Nat} {xs : List Int} {cs zs : List Value} (hn : xs.length ≤ n)
    (hcs : cs = xs.map (Value.int .i64)) (hzs : zs = (List.replicate n (0 : Int)).map (Value.int .i64))
    (h : w2.heap[w.heap.size]? = some (.cells (splice zs 0 cs).toArray 3 (0, 0))) : Row w2 w.heap.size (padL xs n) := by
  subst hcs hzs
  rw [splice_pad xs n hn] at h
  exact row_of_heap h

end Go.Proofs.Ytihklpkpcnahkaa
/- Contracts of nat.Valid, of Valid and Same of the reference. -/
namespace Go.Proofs.Ytihklpkpcnahkaa
open Go.ChangeShapes Go.WideShapes Go.RowKit
set_option linter.unusedVariables false
set_option maxRecDepth 100000

theorem validB_long {l : List Int} (h : 48 < l.length) : validB l = false := by simp [validB]; intro h2; omega
theorem validB_bad {l : List Int} {k : Nat} {z : Int} (hz : l[k]? = some z) (h : z < 0 ∨ 1000000000 ≤ z) : validB l = false := by
  cases hv : validB l with
  | false => rfl
  | true => have := lok_at (nrm_lok (validB_iff.mp hv).2) hz; omega
theorem validB_nil : validB [] = true := rfl
theorem last_some {l : List Int} {z : Int} (hz : l[l.length - 1]? = some z) : l.getLast? = some z := by rw [List.getLast?_eq_getElem?]; exact hz
theorem validB_zero {l : List Int} (hz : l[l.length - 1]? = some 0) : validB l = false := by
  cases hv : validB l with
  | false => rfl
  | true => have := (validB_iff.mp hv).2; simp [nrm, last_some hz] at this
theorem validB_end {l : List Int} {z : Int} (h : l.length ≤ 48) (hk : lok l = true) (hz : l[l.length - 1]? = some z) (h0 : z ≠ 0) : validB l = true :=
  validB_iff.mpr ⟨h, by simp [nrm, hk, last_some hz, h0]⟩
theorem lok_take_succ {l : List Int} {k : Nat} {z : Int} (h : lok (l.take k) = true) (hz : l[k]? = some z) (h1 : 0 ≤ z) (h2 : z < 1000000000) : lok (l.take (k + 1)) = true := by
  rw [trim_step hz, lok_append]; exact ⟨h, by simp [lok, h1, h2]⟩

theorem same_end {xs ys : List Int} (hl : xs.length = ys.length) (h : xs.take xs.length = ys.take xs.length) : xs = ys := by
  rw [List.take_length] at h; rw [h, List.take_of_length_le (by omega)]

end Go.Proofs.Ytihklpkpcnahkaa
/- Contracts of compare: the program's and the reference's; Cmp of both. -/
namespace Go.Proofs.Ytihklpkpcnahkaa
open Go.ChangeShapes Go.WideShapes Go.RowKit
set_option linter.unusedVariables false
set_option maxRecDepth 100000

def cmpI (x y : Int) : Int := Lib.compareInt x y
theorem cmpI_lt {x y : Int} (h : x < y) : cmpI x y = -1 := by simp [cmpI, Lib.compareInt, h]
theorem cmpI_gt {x y : Int} (h : y < x) : cmpI x y = 1 := by
  unfold cmpI Lib.compareInt; rw [if_neg (by omega), if_pos h]
theorem cmpI_eq (x : Int) : cmpI x x = 0 := by simp [cmpI, Lib.compareInt]
theorem nrm_len {xs ys : List Int} (hx : nrm xs = true) (hy : nrm ys = true) (h : xs.length < ys.length) : nval xs < nval ys := by
  have a := nval_lt (nrm_lok hx)
  have b := nrm_limbs hy
  have c := nval_nonneg (nrm_lok hy)
  have d := nval_nonneg (nrm_lok hx)
  rcases Int.lt_or_le (nval xs) (nval ys) with h1 | h1
  · exact h1
  · exfalso
    have e : (nval ys).toNat < 1000000000 ^ xs.length := by
      have : ((nval ys).toNat : Int) < ((1000000000 ^ xs.length : Nat) : Int) := by rw [Int.natCast_pow]; have : ((1000000000 : Nat) : Int) = 1000000000 := rfl; rw [this]; omega
      omega
    have := limbs_len_le.mpr e
    rw [← b] at this
    omega
theorem nval_lt_at {xs ys : List Int} {k : Nat} {x y : Int} (hx : lok xs = true) (hy : lok ys = true) (h1 : xs[k]? = some x) (h2 : ys[k]? = some y) (he : xs.drop (k + 1) = ys.drop (k + 1)) (h : x < y) : nval xs < nval ys := by
  have hk : k < xs.length := by
    rcases Nat.lt_or_ge k xs.length with h | h
    · exact h
    · rw [List.getElem?_eq_none h] at h1; cases h1
  have hk2 : k < ys.length := by
    rcases Nat.lt_or_ge k ys.length with h | h
    · exact h
    · rw [List.getElem?_eq_none h] at h2; cases h2
  have e1 : nval xs = nval (xs.take k) + 1000000000 ^ k * (x + 1000000000 * nval (xs.drop (k + 1))) := by
    rw [← nval_drop_step h1]
    have := nval_append (xs.take k) (xs.drop k)
    rw [List.take_append_drop, List.length_take, Nat.min_eq_left (by omega)] at this; exact this
  have e2 : nval ys = nval (ys.take k) + 1000000000 ^ k * (y + 1000000000 * nval (ys.drop (k + 1))) := by
    rw [← nval_drop_step h2]
    have := nval_append (ys.take k) (ys.drop k)
    rw [List.take_append_drop, List.length_take, Nat.min_eq_left (by omega)] at this; exact this
  have l1 := nval_lt (lok_take hx k)
  have l2 := nval_nonneg (lok_take hy k)
  rw [List.length_take, Nat.min_eq_left (by omega)] at l1
  rw [e1, e2, he]
  obtain ⟨P, hP⟩ : ∃ P : Int, P = 1000000000 ^ k := ⟨_, rfl⟩
  obtain ⟨R, hR⟩ : ∃ R : Int, R = 1000000000 * nval (ys.drop (k + 1)) := ⟨_, rfl⟩
  have hpos := pow_pos' k
  rw [← hP] at l1 hpos ⊢
  rw [← hR]
  have m : P * (x + R) + P ≤ P * (y + R) := by
    have := Int.mul_le_mul_of_nonneg_left (show x + R + 1 ≤ y + R by omega) (Int.le_of_lt hpos)
    rw [Int.mul_add, Int.mul_one] at this; exact this
  omega
theorem drop_step {l : List Int} {k : Nat} {z : Int} (h : l[k]? = some z) : l.drop k = z :: l.drop (k + 1) := by
  have hk : k < l.length := by
    rcases Nat.lt_or_ge k l.length with h1 | h1
    · exact h1
    · rw [List.getElem?_eq_none h1] at h; cases h
  rw [List.drop_eq_getElem_cons hk]
  rw [List.getElem?_eq_getElem hk] at h
  cases h; rfl

end Go.Proofs.Ytihklpkpcnahkaa
